import Derived.Test.YtelkndhifkmpiaaHeC
namespace Go.Proofs
open Go.RowKit
set_option linter.unusedVariables false

theorem Blk.at (w : World) (t : TypeId) (cs : Array Value) {n : Nat} (h : n = w.heap.size) : Blk (w.alloc (.cells cs t)) n t cs := by subst h; exact Blk.new w t cs
/-! ### A heap in memory -/
/-- At block g a heap: its timers ts stand in block h (of a capacity of c), their places f in the map at block b (of at most m IDs); p were put. -/
def HpB (w : World) (g h b c : Nat) (ts : List Tm) (f : Int → Option Nat) (m p : Nat) : Prop :=
  Blk w g 55 #[.slice (some ⟨h, 0, none⟩) ts.length c, .map (some b), .int .u64 p] ∧ Row w 61 3 (.slice (some ⟨h, 0, none⟩) ts.length c) ts.length (tms ts) ∧ Mp w b m f
section
variable {w w' : World} {g h b c m p : Nat} {ts : List Tm} {f : Int → Option Nat}
theorem HpB.lt (H : HpB w g h b c ts f m p) : ∀ k ∈ [g, h, b], k < w.heap.size := by
  obtain ⟨hB, hR, hM⟩ := H
  intro k hk
  simp at hk
  rcases hk with rfl | rfl | rfl
  · exact hB.lt
  · exact hR.lt _ (by simp [foot_some])
  · exact hM.lt
theorem HpB.ne (H : HpB w g h b c ts f m p) : g ≠ h ∧ b ≠ g ∧ b ≠ h := by
  obtain ⟨hB, hR, hM⟩ := H
  have h1 := hR.ty hB (by decide)
  have h2 := hM.row hR
  simp [foot_some] at h1 h2
  exact ⟨h1, hM.far hB, h2⟩
theorem HpB.chg {S : List Nat} (H : HpB w g h b c ts f m p) (hc : Chg S w w') (hn : ∀ k ∈ [g, h, b], k ∉ S) : HpB w' g h b c ts f m p := by
  obtain ⟨hB, hR, hM⟩ := H
  exact ⟨hB.chg hc (hn g (by simp)), hR.chg hc (fun k hk => hn k (by simp [foot_some] at hk; simp [hk])), hM.chg hc (hn b (by simp))⟩
theorem HpB.quiet (H : HpB w g h b c ts f m p) (hc : Chg [] w w') : HpB w' g h b c ts f m p := H.chg hc (fun _ _ h => by cases h)
end
def agg (x : Tm) : Value := .agg #[.int .u64 x.at_, .int .i64 x.id, .int .u64 x.put]
/-- The world behind a timer's three cells were written, and one block was laid. -/
def putTm (w : World) (h i : Nat) (x : Tm) (o : Obj) : World := (((w.setCell ⟨h, i * 3, none⟩ (.int .u64 x.at_)).setCell ⟨h, i * 3 + 1, none⟩ (.int .i64 x.id)).setCell ⟨h, i * 3 + 2, none⟩ (.int .u64 x.put)).alloc o
theorem putTm_chg (w : World) (h i : Nat) (x : Tm) (o : Obj) : Chg [h] w (putTm w h i x o) :=
  ((((Chg.refl [h] w).setCell (p := ⟨h, i * 3, none⟩) (.inl (by simp)) _).setCell (p := ⟨h, i * 3 + 1, none⟩) (.inl (by simp)) _).setCell (p := ⟨h, i * 3 + 2, none⟩) (.inl (by simp)) _).alloc o
theorem putTm_row {w : World} {h c n : Nat} {ts : List Tm} (hR : Row w 61 3 (.slice (some ⟨h, 0, none⟩) n c) n (tms ts)) {i : Nat} (hi : i < ts.length) (hn : n = ts.length) (x : Tm) (o : Obj) :
    Row (putTm w h i x o) 61 3 (.slice (some ⟨h, 0, none⟩) n c) n (tms (ts.set i x)) := by
  rw [tms_set ts i x hi]
  exact (((hR.set_ (j := i * 3) (by omega) _).set_ (j := i * 3 + 1) (by omega) _).set_ (j := i * 3 + 2) (by omega) _).alloc o
theorem HpB.put {w w1 : World} {g h b c m m' p : Nat} {ts : List Tm} {f f' : Int → Option Nat} (H : HpB w g h b c ts f m p) {i : Nat} (hi : i < ts.length) (x : Tm) (o : Obj) (hg : (putTm w h i x o).grownBy w1 (some b)) (hm : Mp w1 b m' f') :
    HpB w1 g h b c (ts.set i x) f' m' p ∧ Chg [g, h, b] w w1 := by
  obtain ⟨n1, n2, n3⟩ := H.ne
  have hb := H.lt b (by simp)
  obtain ⟨hB, hR, hM⟩ := H
  have k1 := putTm_chg w h i x o
  have k2 : Chg [b] (putTm w h i x o) w1 := (Chg.refl [b] _).grown hg (fun k hk => by cases hk; exact .inl (by simp))
  refine ⟨⟨?_, ?_, hm⟩, ?_⟩
  · rw [List.length_set]
    exact (hB.chg k1 (by simpa using n1)).chg k2 (by simpa using Ne.symm n2)
  · rw [List.length_set]
    exact (putTm_row hR hi rfl x o).chg k2 (by simpa [foot_some] using Ne.symm n3)
  · exact (k1.mono (S' := [g, h, b]) (fun k hk => .inl (by simp at hk; simp [hk]))).trans k2 (fun k hk => .inl (by simp at hk; simp [hk]))
set_option maxHeartbeats 1600000 in
set_option maxRecDepth 100000 in
theorem set_any {w : World} {g h b c m p : Nat} {ts : List Tm} {f : Int → Option Nat} (H : HpB w g h b c ts f m p) {i : Nat} (hi : i < ts.length) (hn : ts.length ≤ 100000) (hm : m ≤ 1000000) (x : Tm) (hx : I64 x.id) :
    Calls Try.prog 31 #[.pointer (some ⟨g, 0, none⟩), .int .i64 (i : Nat), agg x] w fun e w' => e = .returned (.tuple #[]) ∧ HpB w' g h b c (ts.set i x) (upd f x.id i) (m + if (f x.id).isSome then 0 else 1) p ∧ Chg [g, h, b] w w' := by
  obtain ⟨n1, n2, n3⟩ := H.ne
  obtain ⟨hB, hR, hM⟩ := id H
  have HFin := Lib.hid (fun w1 m' f' o (hg : (putTm w h i x o).grownBy w1 (some b)) (hmm : Mp w1 b m' f') => H.put hi x o hg hmm)
  have HMs := Lib.hid (fun o => hM.chg (putTm_chg w h i x o) (by simpa using n3))
  have c0 := hB.cell 0
  have c1 := hB.cell 1
  have lg := hB.lt
  obtain ⟨_, _, hv, _, _, hcell, hfz, lh⟩ := hR.form (by omega)
  simp only [Value.slice.injEq, Option.some.injEq, Addr.mk.injEq] at hv
  obtain ⟨⟨rfl, _⟩, _, rfl⟩ := hv
  obtain ⟨n, hnn⟩ : ∃ n, n = ts.length := ⟨_, rfl⟩
  have k0 := hcell _ _ (tms_at (at_eq hi)).1
  have k1 := hcell _ _ (tms_at (at_eq hi)).2.1
  have k2 := hcell _ _ (tms_at (at_eq hi)).2.2
  have f0 := hfz (i * 3)
  have f1 := hfz (i * 3 + 1)
  have f2 := hfz (i * 3 + 2)
  simp only [List.getElem?_toArray, List.getElem?_cons_succ, List.getElem?_cons_zero, ← hnn] at c0 c1
  rw [← hnn] at hi hn
  have i0 : (0 : Int) ≤ (i : Int) := by omega
  have i1 : (i : Int) < (n : Int) := by omega
  have hgh : h ≠ g := Ne.symm n1
  have HX := Lib.hid hx
  obtain ⟨m', hm'⟩ : ∃ m', m' = m + if (f x.id).isSome then 0 else 1 := ⟨_, rfl⟩
  rw [← hm']
  have HM' := Lib.hid hm'
  clear hB hR hcell hfz hnn hM H n2 n3 hx hm'
  obtain ⟨xa, xi, xp⟩ := x
  unfold agg
  unfold putTm at HMs
  go_enter Try.func31, Try.ntmps31
  go_wp2
  go_region
  go_wp2
  obtain ⟨w1, hrun, hg1, hm1⟩ := Mp.store (w := ((((w.setCell ⟨h, i * 3, none⟩ (.int .u64 xa)).setCell ⟨h, i * 3 + 1, none⟩ (.int .i64 xi)).setCell ⟨h, i * 3 + 2, none⟩ (.int .u64 xp)).alloc (.cells #[.int .u64 xa, .int .i64 xi, .int .u64 xp] 61)).drew.drew) ((HMs.out _).same rfl) hm HX.out (i := i) (by omega)
  have HG := Lib.hid hg1
  have HMM := Lib.hid hm1
  clear hg1 hm1
  go_region
  all_goals
    go_wp2
    go_end0
    have hf := HFin.out _ _ _ _ ⟨HG.out.os, HG.out.tape, HG.out.output, HG.out.size, HG.out.block⟩ HMM.out
    have hm' := HM'.out
    rw [← hm'] at hf
    exact ⟨rfl, hf⟩
end Go.Proofs
