import Derived.Test.YtfbelpbfmafjdaaBe
import Derived.Test.YtfbelpbfmafjdaaArK
import Derived.Sort.LoopGhostIn
namespace Go.Proofs
open Go.RowKit Go.Shelf
set_option linter.unusedVariables false

theorem TabAt.not_in {w : World} {g b : Nat} {S : List Nat} {t : Tab Int} {cs : Array Value} {ty : TypeId} (h : TabAt kI w g S t) (hb : Blk w b ty cs) (h1 : ty ≠ 66) (h2 : ty ≠ 82) (h3 : ty ≠ 3) : b ∉ S := by
  obtain ⟨VS, VF, hB, hS, hF, rfl⟩ := h
  intro hk
  simp at hk
  rcases hk with h9 | h9 | h9
  · exact Blk.ty hb hB h1 h9
  · exact hS.ty hb (Ne.symm h2) h9
  · exact hF.ty hb (Ne.symm h3) h9
theorem RefAt.not_in {w : World} {h b : Nat} {R : List Nat} {r : RTab} {cs : Array Value} {ty : TypeId} (hr : RefAt w h R r) (hb : Blk w b ty cs) (h1 : ty ≠ 56) (h2 : ty ≠ 58) : b ∉ R := by
  obtain ⟨VL, hB, hL, rfl⟩ := hr
  intro hk
  simp at hk
  rcases hk with h9 | h9
  · exact Blk.ty hb hB h1 h9
  · exact hL.ty hb (Ne.symm h2) h9
/-- What holds between two acts, with the captured box of the document's table. -/
def Between9 (w0 : World) (g h b9 : Nat) (T : Int) (w : World) : Prop :=
  ∃ S R t r, Two w g h S R t r ∧ t.WF ∧ Sim t r ∧ r.Fits T ∧ (∀ k ∈ S, w0.heap.size ≤ k) ∧ (∀ k ∈ R, w0.heap.size ≤ k) ∧ Below w0.heap.size w0 w ∧ Blk w b9 31 #[.pointer (some ⟨h, 0, none⟩)]
theorem Between9.quiet {w0 w w' : World} {g h b9 : Nat} {T : Int} (H : Between9 w0 g h b9 T w) (hc : Chg [] w w') : Between9 w0 g h b9 T w' := by
  obtain ⟨S, R, t, r, h1, h2, h3, h4, h5, h6, h7, h8⟩ := H
  exact ⟨S, R, t, r, h1.quiet hc, h2, h3, h4, h5, h6, h7.trans (hc.below (fun _ h => by cases h) h7.size), h8.chg hc (by simp)⟩
theorem Between9.does {w0 w : World} {g h b9 : Nat} {T : Int} (H : Between9 w0 g h b9 T w) (hT : T ≤ 1000000) (a : ActV) (ha : a.Fits) :
    Calls Try.prog 15 #[.pointer (some ⟨g, 0, none⟩), .pointer (some ⟨h, 0, none⟩), .agg #[.int .i64 a.kind, .int .i64 a.x, .int .i64 a.i, .int .u64 a.q, .int .i64 a.n]] w fun e w' => e = .returned (.bool true) ∧ Between9 w0 g h b9 (T + 1) w' := by
  obtain ⟨S, R, t, r, h1, h2, h3, h4, h5, h6, h7, h8⟩ := H
  refine (do_sim h1 h2 h3 h4 hT a ha).mono ?_
  rintro e w' ⟨he, S', R', k1, k2, k3, k4⟩
  refine ⟨he, S', R', _, _, k1, h2.act a, h3.act h2 a, h4.act a _ _, sub_below h5 h7.size k2, sub_below h6 h7.size k3, h7.trans (k4.below (fun k hk => ?_) h7.size), h8.chg k4 (fun hm => ?_)⟩
  · rcases List.mem_append.1 hk with h | h
    · exact h5 k h
    · exact h6 k h
  · rcases List.mem_append.1 hm with h9 | h9
    · exact h1.tab.not_in h8 (by decide) (by decide) (by decide) h9
    · exact h1.ref.not_in h8 (by decide) (by decide) h9
theorem Between9.new {w0 w1 w2 : World} {size : Nat} {first : Int} (h : mayT (size : Nat) first = true) (h1 : TabAt kI w1 w0.heap.size [w0.heap.size] ⟨(size : Nat), first, [], [], 0⟩) (hc1 : Chg [] w0 w1) (h2 : RMade ⟨newL first size, 0⟩ w1 w2) :
    Between9 w0 w0.heap.size w1.heap.size w2.heap.size 0 (w2.alloc (.cells #[.pointer (some ⟨w1.heap.size, 0, none⟩)] 31)) := by
  obtain ⟨S, R, t, r, k1, k2, k3, k4, k5, k6, k7⟩ := (Between.new h h1 hc1 h2).quiet ((Chg.refl _ _).alloc (.cells #[.pointer (some ⟨w1.heap.size, 0, none⟩)] 31))
  exact ⟨S, R, t, r, k1, k2, k3, k4, k5, k6, k7, Blk.new w2 31 _⟩
/-- What lies ready where the turns begin. -/
structure Ready (w Wb : World) (b5 b6 b9 h B n0 : Nat) (lv : Int) (t : Tab Int) (r : RTab) (R : List Nat) : Prop where
  e5 : Blk Wb b5 3 #[.int .i64 lv]
  e6 : Blk Wb b6 4 #[.bool false]
  e9 : Blk Wb b9 31 #[.pointer (some ⟨h, 0, none⟩)]
  ref : RefAt Wb h R r
  held : HeldTo n0 Wb.heap.size Wb B (nowL t r.L.length)
  wf : t.WF
  sim : Sim t r
  base : w.heap.size ≤ b6
  below : Below w.heap.size w Wb
theorem HeldTo.up {n0 hi D : Nat} {W : World} {B : Nat} {xs : List Nam} (h : HeldTo n0 hi W B xs) (h1 : hi ≤ D) (h2 : D ≤ W.heap.size) : HeldTo n0 D W B xs := by
  obtain ⟨q1, q2, q3, V, hV, hR, hf⟩ := h
  exact ⟨q1, by omega, h2, V, hV, hR, fun k hk => ⟨(hf k hk).1, by have := (hf k hk).2; omega⟩⟩
theorem Ready.after {w w0 W1 W2 W6 : World} {g h b5 b6 b9 B : Nat} {lv : Int} {S R Sx : List Nat} {t : Tab Int} {r : RTab} (h1 : Two W1 g h S R t r) (hw : t.WF) (hs : Sim t r) (hS : ∀ k ∈ S, w0.heap.size ≤ k) (h7 : Below w0.heap.size w0 W1) (h8 : Blk W1 b9 31 #[.pointer (some ⟨h, 0, none⟩)])
    (h5 : Blk w0 b5 3 #[.int .i64 lv]) (h6 : Blk w0 b6 4 #[.bool false]) (hb : w.heap.size ≤ b6) (h0 : Below w.heap.size w w0) (hz : w.heap.size ≤ w0.heap.size)
    (hG : Held W1.heap.size W2 B (nowL t r.L.length)) (hA : Below W1.heap.size W1 W2) (hc : Chg Sx W2 W6) (hx : ∀ k ∈ Sx, k ∈ S ∨ W2.heap.size ≤ k) : Ready w W6 b5 b6 b9 h B W1.heap.size lv t r R := by
  have l5 := h5.lt
  have l6 := h6.lt
  have lS := h1.tab.lt
  have lR := h1.ref.lt
  have l9 := h8.lt
  have n9 := h1.tab.not_in h8 (by decide) (by decide) (by decide)
  have z7 := h7.size
  have zA := hA.size
  have old : ∀ k, k < W1.heap.size → k ∉ S → W6.heap[k]? = W1.heap[k]? := fun k hk hn => (hc.block k (by omega) (fun hm => by rcases hx k hm with h9 | h9 <;> first | exact hn h9 | omega)).trans (hA.block k hk)
  refine ⟨h5.same ((old b5 (by omega) (fun hm => by have := hS b5 hm; omega)).trans (h7.block b5 l5)), h6.same ((old b6 (by omega) (fun hm => by have := hS b6 hm; omega)).trans (h7.block b6 l6)), h8.same (old b9 l9 n9), h1.ref.same (fun k hk => old k (lR k hk) (fun hm => h1.apart k hm hk)), ?_, hw, hs, hb, ?_⟩
  · refine (hG.to.chg hc (fun k hk => ?_)).up hc.size (Nat.le_refl _)
    rcases hx k hk with h9 | h9
    · exact .inl (lS k h9)
    · exact .inr h9
  · refine ((h0.trans (h7.mono hz)).trans (hA.mono (by omega))).trans (hc.below (fun k hk => ?_) (by omega))
    rcases hx k hk with h9 | h9
    · have := hS k h9; omega
    · omega
theorem Ready.cells {w Wb : World} {b5 b6 b9 h B n0 : Nat} {lv : Int} {t : Tab Int} {r : RTab} {R : List Nat} (H : Ready w Wb b5 b6 b9 h B n0 lv t r R) : ∃ A cl, ∀ W, Below Wb.heap.size Wb W →
    W.cell? ⟨b9, 0, none⟩ = some (.pointer (some ⟨h, 0, none⟩)) ∧ W.cell? ⟨h, 0, none⟩ = some (.slice A r.L.length cl) ∧ W.cell? ⟨b5, 0, none⟩ = some (.int .i64 lv) ∧ W.cell? ⟨b6, 0, none⟩ = some (.bool false) ∧ W.frozen? ⟨b6, 0, none⟩ = false ∧
    ∀ k p, r.L[k]? = some p → ∃ gl, A = some ⟨gl, 0, none⟩ ∧ W.cell? ⟨gl, k * 5, none⟩ = some (.int .u64 p.gen) ∧ W.cell? ⟨gl, k * 5 + 1, none⟩ = some (.bool p.there) ∧ W.cell? ⟨gl, k * 5 + 3, none⟩ = some (.int .i64 p.x) := by
  obtain ⟨VL, hB, hL, _⟩ := H.ref
  obtain ⟨A, cl, rfl, _⟩ := hL.val
  refine ⟨A, cl, fun W hW => ⟨(hW.cell (p := ⟨b9, 0, none⟩) H.e9.lt).trans (H.e9.cell 0), (hW.cell (p := ⟨h, 0, none⟩) hB.lt).trans (hB.cell 0), (hW.cell (p := ⟨b5, 0, none⟩) H.e5.lt).trans (H.e5.cell 0), (hW.cell (p := ⟨b6, 0, none⟩) H.e6.lt).trans (H.e6.cell 0), (hW.frozen (p := ⟨b6, 0, none⟩) H.e6.lt).trans (H.e6.frozen 0), fun k p hp => ?_⟩⟩
  obtain ⟨gl, cl', hv, _, lg, _, c0, c1, _, c3, _⟩ := ref_spot hL hp
  simp only [Value.slice.injEq] at hv
  exact ⟨gl, hv.1, (hW.cell (p := ⟨gl, _, none⟩) lg).trans c0, (hW.cell (p := ⟨gl, _, none⟩) lg).trans c1, (hW.cell (p := ⟨gl, _, none⟩) lg).trans c3⟩

def marks (Ds : List Nat) : List Deferred := Ds.map fun D => { target := .collected D, args := #[] }
/-- The loops' blocks for deferred calls: each its own, beyond B, and none holds a call. -/
def Marks (B : Nat) (W : World) (Ds : List Nat) : Prop := Ds.Nodup ∧ ∀ D ∈ Ds, B ≤ D ∧ W.heap[D]? = some (.deferred (some []))
theorem Marks.lt {B : Nat} {W : World} {Ds : List Nat} (h : Marks B W Ds) : ∀ D ∈ Ds, D < W.heap.size := fun D hD => (Array.getElem?_eq_some_iff.1 (h.2 D hD).2).1
theorem Marks.others {B : Nat} {W W' : World} {Ds : List Nat} (h : Marks B W Ds) (hk : KeepsOthers W W') : Marks B W' Ds := ⟨h.1, fun D hD => ⟨(h.2 D hD).1, hk.same D _ (h.2 D hD).2 rfl⟩⟩
theorem Marks.kept {B C : Nat} {W W' : World} {Ds : List Nat} {row : Option Nat} (h : Marks B W Ds) (hC : ∀ D ∈ Ds, D < C) (hg : W.grownBy W' row) (hr : ∀ r, row = some r → C ≤ r) : Marks B W' Ds :=
  ⟨h.1, fun D hD => ⟨(h.2 D hD).1, (hg.block D (h.lt D hD) (fun e => by have := hr D e.symm; have := hC D hD; omega)).trans (h.2 D hD).2⟩⟩
theorem Marks.cons {B C D : Nat} {W : World} {Ds : List Nat} (h : Marks B W Ds) (hC : ∀ D ∈ Ds, D < C) (hBC : B ≤ C) (hD : C ≤ D) (hK : W.heap[D]? = some (.deferred (some []))) : Marks B W (D :: Ds) :=
  ⟨List.nodup_cons.2 ⟨fun hm => by have := hC D hm; omega, h.1⟩, fun E hE => by
    rcases List.mem_cons.1 hE with rfl | hE
    · exact ⟨by omega, hK⟩
    · exact h.2 E hE⟩
theorem Blk.kept {W W' : World} {b : Nat} {ty : TypeId} {cs : Array Value} {C : Nat} {row : Option Nat} (h : Blk W b ty cs) (hC : b < C) (hg : W.grownBy W' row) (hr : ∀ r, row = some r → C ≤ r) : Blk W' b ty cs :=
  h.same (hg.block b h.lt (fun e => by have := hr b e.symm; omega))
/-- A function leaves by its marks: each is shut in turn; nothing that lay below B is changed. -/
theorem leaves_marks {fn : Func} {tmps : Array Value} {R : Ending → World → Prop} {B b : Nat} {ty : TypeId} {cs : Array Value} {w0 : World} (hw0 : B ≤ w0.heap.size)
    (h : ∀ W, Below B w0 W → Blk W b ty cs → LeavesIn Fence.wide 12 Try.prog fn tmps R [] .returning W) :
    ∀ (Ds : List Nat) (W : World), Marks B W Ds → Below B w0 W → Blk W b ty cs → LeavesInM Fence.wide 12 Try.prog fn tmps R (marks Ds) .returning W := by
  intro Ds
  induction Ds with
  | nil => intro W _ hB hH; exact h W hB hH
  | cons D Ds ih =>
    intro W hM hB hH
    have hD := hM.2 D (by simp)
    have hne : b ≠ D := by
      rintro rfl
      unfold Blk at hH
      rw [hD.2] at hH
      cases hH
    refine ⟨by simp, .inl ⟨_, _, rfl, run_takeDeferred hD.2, ?_⟩⟩
    refine ih _ ⟨(List.nodup_cons.1 hM.1).2, fun E hE => ⟨(hM.2 E (by simp [hE])).1, ?_⟩⟩ (hB.grown (grownBy_putObj' W D _) (by have := hB.size; omega) (fun k e => by cases e; exact hD.1)) (hH.same (World.putObj_heap_other hne))
    exact (World.putObj_heap_other (fun e => (List.nodup_cons.1 hM.1).1 (by subst e; exact hE))).trans (hM.2 E (by simp [hE])).2

/-- What holds between two turns. -/
def Turn (Wb : World) (T : Int) (b14 : Nat) (Ds : List Nat) (W : World) : Prop := 0 ≤ T ∧ T ≤ 2 ∧ Wb.heap.size ≤ b14 ∧ Blk W b14 3 #[.int .i64 T] ∧ Marks Wb.heap.size W Ds ∧ Below Wb.heap.size Wb W
/-- What holds in the midst of a round: the place, what has come, the turn. -/
structure GoesAt (t : Tab Int) (Wb : World) (T : Int) (b14 b15 b16 : Nat) (Ds : List Nat) (a : Nat) (pre : List Nam) (W : World) : Prop where
  pre_ : pre = nowL t a
  at_ : Blk W b15 3 #[.int .i64 (a : Nat)]
  n : Blk W b16 3 #[.int .i64 (pre.length : Nat)]
  turn : Blk W b14 3 #[.int .i64 T]
  mks : Marks Wb.heap.size W Ds
  below : Below Wb.heap.size Wb W
def Goes (t : Tab Int) (N : Nat) (Wb : World) (T : Int) (b14 b15 b16 : Nat) (Ds : List Nat) (pre : List Nam) (W : World) : Prop := ∃ a, a ≤ N ∧ GoesAt t Wb T b14 b15 b16 Ds a pre W
def Left (t : Tab Int) (N : Nat) (lv : Int) (Wb : World) (T : Int) (b14 b15 b16 : Nat) (Ds : List Nat) (c : Code) (pre : List Nam) (W : World) : Prop :=
  (c = .exit 4 ∧ T = 0 ∧ (pre.length : Int) = lv ∧ Goes t N Wb T b14 b15 b16 Ds pre W) ∨ (c = .ret ∧ ¬ pre <+: nowL t N)
theorem goes_own {t : Tab Int} {N : Nat} {Wb : World} {T : Int} {b14 b15 b16 C : Nat} {Ds : List Nat} (h14 : b14 < C) (h15 : b15 < C) (h16 : b16 < C) (hC : ∀ D ∈ Ds, D < C) (hw : Wb.heap.size ≤ C) : OwnFrom C (Goes t N Wb T b14 b15 b16 Ds) := by
  rintro pre A B row ⟨a, ha, h1, h2, h3, h4, h5, h6⟩ hg hr
  have hr' : ∀ r, row = some r → C ≤ r := fun r e => (hr r e).1
  exact ⟨a, ha, h1, h2.kept h15 hg hr', h3.kept h16 hg hr', h4.kept h14 hg hr', h5.kept hC hg hr', h6.grown hg h6.size (fun k e => Nat.le_trans hw (hr' k e))⟩
theorem left_own {t : Tab Int} {N : Nat} {lv : Int} {Wb : World} {T : Int} {b14 b15 b16 C : Nat} {Ds : List Nat} (h14 : b14 < C) (h15 : b15 < C) (h16 : b16 < C) (hC : ∀ D ∈ Ds, D < C) (hw : Wb.heap.size ≤ C) (c : Code) : OwnFrom C (Left t N lv Wb T b14 b15 b16 Ds c) := by
  rintro pre A B row h hg hr
  rcases h with ⟨h1, h2, h3, h4⟩ | h
  · exact .inl ⟨h1, h2, h3, goes_own h14 h15 h16 hC hw pre A B row h4 hg hr⟩
  · exact .inr h
/-- The place moves on. -/
theorem GoesAt.skip {t : Tab Int} {Wb W : World} {T : Int} {b14 b15 b16 a : Nat} {Ds : List Nat} {pre : List Nam} (H : GoesAt t Wb T b14 b15 b16 Ds a pre W) (hn : nowL t (a + 1) = nowL t a) (h1 : b15 ≠ b14) (h2 : b15 ≠ b16) (hb : Wb.heap.size ≤ b15) :
    GoesAt t Wb T b14 b15 b16 Ds (a + 1) pre (W.setCell ⟨b15, 0, none⟩ (.int .i64 ((a : Int) + 1))) := by
  obtain ⟨q1, q2, q3, q4, q5, q6⟩ := H
  exact ⟨by rw [hn]; exact q1, by have := q2.set_ 0 (.int .i64 ((a : Int) + 1)); simpa using this, q3.far (p := ⟨b15, 0, none⟩) (Ne.symm h2) _, q4.far (p := ⟨b15, 0, none⟩) (Ne.symm h1) _, q5.others (KeepsOthers.setCell _ _ _), q6.setCell (p := ⟨b15, 0, none⟩) hb _⟩
/-- One has come: the place moves on, and there is one more. -/
theorem GoesAt.come {t : Tab Int} {Wb W : World} {T : Int} {b14 b15 b16 a : Nat} {Ds : List Nat} {pre : List Nam} {x : Nam} (H : GoesAt t Wb T b14 b15 b16 Ds a pre W) (hn : nowL t (a + 1) = nowL t a ++ [x]) (h1 : b15 ≠ b14) (h2 : b15 ≠ b16) (h3 : b16 ≠ b14) (hb : Wb.heap.size ≤ b15) (hb2 : Wb.heap.size ≤ b16) :
    GoesAt t Wb T b14 b15 b16 Ds (a + 1) (pre ++ [x]) ((W.setCell ⟨b15, 0, none⟩ (.int .i64 ((a : Int) + 1))).setCell ⟨b16, 0, none⟩ (.int .i64 ((pre.length : Int) + 1))) := by
  obtain ⟨q1, q2, q3, q4, q5, q6⟩ := H
  refine ⟨by rw [hn, q1], ?_, ?_, (q4.far (p := ⟨b15, 0, none⟩) (Ne.symm h1) _).far (p := ⟨b16, 0, none⟩) (Ne.symm h3) _, (q5.others (KeepsOthers.setCell _ _ _)).others (KeepsOthers.setCell _ _ _), (q6.setCell (p := ⟨b15, 0, none⟩) hb _).setCell (p := ⟨b16, 0, none⟩) hb2 _⟩
  · have := (q2.set_ 0 (.int .i64 ((a : Int) + 1))).far (p := ⟨b16, 0, none⟩) h2 (.int .i64 ((pre.length : Int) + 1))
    simpa using this
  · have := (q3.far (p := ⟨b15, 0, none⟩) (Ne.symm h2) (.int .i64 ((a : Int) + 1))).set_ 0 (.int .i64 ((pre.length : Int) + 1))
    simpa using this
end Go.Proofs
