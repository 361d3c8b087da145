import Derived.Test.YtocdkomjdcccoaaGreatNa2
import Derived.Deep.RegionLaw
section
namespace Go.Proofs
open Go.RowKit
set_option linter.unusedVariables false

section
variable {P : Program} (w : World)
/-- append of nothing onto a row: the row. -/
theorem run_append_none (t ty e : TypeId) (i : TypeInfo) (size : Nat) (ht : P.underlying t = some (.slice e)) (hi : P.info? e = some i)
    (v : Value) (n : Nat) (xs : List Value) (hr : Row w e size v n xs) (A : Option Addr) (c : Nat) :
    (Builtin.append_ #[t, t] ty #[v, .slice A 0 c]).run P w = .ok v w := by
  rcases hr.2 with ⟨rfl, rfl⟩ | ⟨g, cap, cur, rfl, _, hnc, _⟩
  · cases A <;> simp [Builtin.append_, run_underlying ht, sizeOf, typeInfo, hi, Builtin.lenOf, Builtin.firstCells, loadCells, loadCellsFrom]
  · cases A <;> simp [Builtin.append_, run_underlying ht, sizeOf, typeInfo, hi, Builtin.lenOf, Builtin.firstCells, loadCells, loadCellsFrom, hnc, storeCells]
/-- append of a row onto an empty row: a copy. -/
theorem wpList_append_copy {ops : Array Oper} {rest : List Oper} {o : Oper} {a : Act} {Q : Exit → Act → World → Prop} (hgd : o.guard = none) (s x : Operand) (t : TypeId)
    (ho : o.op = .call { callee := .builtin .append, args := #[s, x], argTypes := #[t, t] })
    (e : TypeId) (i : TypeInfo) (z : Value) (size bytes : Nat) (ht : P.underlying t = some (.slice e)) (hi : P.info? e = some i) (hz : i.zero = some z)
    (hsize : i.size = size) (hby : i.bytes = bytes) (hzs : z.cells.size = size)
    (v : Value) (hs : a.eval s = v) (hr : Row w e size v 0 [])
    (V : Value) (n : Nat) (xs : List Value) (hx : a.eval x = V) (hV : Row w e size V n xs) (h1 : ∀ u ∈ xs, u.oneCell' = true)
    (h63 : n ≤ maxLen) (hbytes : n * bytes ≤ 140737488355328) (H : Nat) (hH : w.heap.size = H)
    (h : ∀ v' w', Row w' e size v' n xs → w.grownBy w' v.ownBlock → (∀ k ∈ foot v', v.ownBlock = some k ∨ k = H) → wpList P ops Q rest (a.put o.dst v') w') : wpList P ops Q (o :: rest) a w := by
  obtain ⟨A, c, rfl, hA⟩ := hV.val
  rcases Nat.eq_zero_or_pos n with h0 | h0
  · subst h0
    have hxs : xs = [] := List.eq_nil_of_length_eq_zero (by simpa using hV.1)
    subst hxs
    have hrun := run_append_none (P := P) w t o.type e i size ht hi v 0 [] hr A c
    refine wpList_plain hgd fun _ hK => ?_
    unfold Oper.wp execOp
    simp only [ho, resolve, invoke, builtin, Sem.run_bind, Sem.run_pure, Result.andThen_ok, List.map_toArray, List.map_cons, List.map_nil, hs, hx, hrun]
    exact hK _ _ (h v w hr ⟨rfl, rfl, rfl, Nat.le_refl _, fun _ _ _ => rfl⟩ (fun k hk => .inl (by simpa [foot] using hk)))
  · obtain ⟨g, cap, hv, _, _, hcell, _, _⟩ := hV.form h0
    simp only [Value.slice.injEq] at hv
    obtain ⟨rfl, _, _⟩ := hv
    have hadd : ∀ j, (⟨g, 0, none⟩ : Addr).add j = ⟨g, j, none⟩ := fun j => by unfold Addr.add; split <;> simp_all
    refine wpList_append_row w hgd s x t ho e i z size bytes ht hi hz hsize hby hzs v 0 [] hs hr ⟨g, 0, none⟩ n c xs hx hV.1 (fun j u hu => by rw [hadd]; exact hcell j u hu) h1 h0 (by omega) (by rw [Nat.zero_add]; exact hbytes) H hH ?_
    intro g' cap' w' h2 h3 h4 _
    simp only [Nat.zero_add, List.nil_append] at h2
    rw [Nat.zero_add]
    exact h _ _ h2 h3 (fun k hk => by simp [foot_some] at hk; subst hk; exact h4)
end
theorem Tryz.int_info3 : (Tryz.prog.info? 3).map (fun i => (i.zero, i.size, i.bytes)) = some (some (.int .i64 0), 1, 8) := by kernel_rfl
/-- A slice in new blocks, with the same cells. -/
def Cloned (e : TypeId) (size n : Nat) (xs : List Value) (w w' : World) (en : Ending) : Prop := ∃ v, en = .returned v ∧ Row w' e size v n xs ∧ (∀ k ∈ foot v, w.heap.size ≤ k) ∧ Chg [] w w'
theorem spotCells_one (l : List (Spot Cx)) : ∀ u ∈ spotCells l, u.oneCell' = true := by
  intro u hu
  unfold spotCells at hu
  rw [List.mem_flatMap] at hu
  obtain ⟨s, _, hs⟩ := hu
  simp [Spot.cells] at hs
  rcases hs with rfl | rfl | rfl | rfl | rfl | rfl <;> rfl
theorem numCells_one (l : List Nat) : ∀ u ∈ numCells l, u.oneCell' = true := by
  intro u hu
  unfold numCells at hu
  rw [List.mem_map] at hu
  obtain ⟨s, _, rfl⟩ := hu
  rfl
theorem eql_nil_105 (w : World) (a : Option Addr) (n c : Nat) : (binOp .eql 105 (.slice a n c) (.slice none 0 0)).run Tryz.prog w = .ok (.bool a.isNone) w := by
  simp only [binOp]
  simp [Op.equal, Op.maxDepth, Lib.run_equalIn_slice_nil w 9999 105 121 a n c 0 0 Tryz.underlying105]
theorem eql_nil_106 (w : World) (a : Option Addr) (n c : Nat) : (binOp .eql 106 (.slice a n c) (.slice none 0 0)).run Tryz.prog w = .ok (.bool a.isNone) w := by
  simp only [binOp]
  simp [Op.equal, Op.maxDepth, Lib.run_equalIn_slice_nil w 9999 106 3 a n c 0 0 Tryz.underlying106]
attribute [local go_sem] eql_nil_105 eql_nil_106
set_option maxRecDepth 100000 in
theorem clone_spots {w : World} {V : Value} {l : List (Spot Cx)} (hV : Row w 121 6 V l.length (spotCells l)) (hl : l.length ≤ 4096) :
    Calls Tryz.prog 95 #[V] w fun e w' => Cloned 121 6 l.length (spotCells l) w w' e := by
  obtain ⟨i0, hi0, hz0, hz1, hz2⟩ := info_parts Tryz.info_C
  have hone := spotCells_one l
  have hV0 := hV
  rcases hV.2 with ⟨rfl, h0⟩ | ⟨g, cap, cur, rfl, hg, hc, hm, hcs, ht⟩
  · have hnil : l = [] := List.eq_nil_of_length_eq_zero h0
    subst hnil
    clear hV hV0 hone
    go_enter Tryz.func95, Tryz.ntmps95
    go_wp2
    go_ret
    exact ⟨_, rfl, Row.nil _ _ _, by simp [foot_nil], Chg.refl _ _⟩
  · have HV := Lib.hid hV0
    clear hV hV0 ht hg hcs hm hc
    obtain ⟨n, hn⟩ : ∃ n, n = l.length := ⟨_, rfl⟩
    rw [← hn] at HV hl ⊢
    clear hn
    go_enter Tryz.func95, Tryz.ntmps95
    go_wp2_with (at_builtin; refine wpList_append_copy _ rfl _ _ 105 (by rfl) 121 i0 _ 6 64 Tryz.underlying105 hi0 hz0 hz1 hz2 rfl (.slice (some ⟨w.heap.size, 0, none⟩) 0 0) (by rfl) ⟨by simp, .inr ⟨w.heap.size, 0, #[], rfl, Blk.new w _ _, by omega, by unfold maxLen; omega, by simp, rfl⟩⟩ (.slice (some ⟨g, 0, none⟩) n cap) n (spotCells l) (by rfl) (HV.out.alloc _) hone (by unfold maxLen; omega) (by omega) (w.heap.size + 1) (by simp) ?_; intro v' w1 hr hg hf)
    go_ret
    refine ⟨_, rfl, hr, fun k hk => ?_, ((Chg.refl [] w).alloc _).grown hg (fun k hk => ?_)⟩
    · rcases hf k hk with h9 | h9
      · simp [Value.ownBlock] at h9; omega
      · omega
    · simp [Value.ownBlock] at hk; exact .inr (by omega)
set_option maxRecDepth 100000 in
theorem clone_nums {w : World} {V : Value} {l : List Nat} (hV : Row w 3 1 V l.length (numCells l)) (hl : l.length ≤ 4096) :
    Calls Tryz.prog 96 #[V] w fun e w' => Cloned 3 1 l.length (numCells l) w w' e := by
  obtain ⟨i0, hi0, hz0, hz1, hz2⟩ := info_parts Tryz.int_info3
  have hone := numCells_one l
  have hV0 := hV
  rcases hV.2 with ⟨rfl, h0⟩ | ⟨g, cap, cur, rfl, hg, hc, hm, hcs, ht⟩
  · have hnil : l = [] := List.eq_nil_of_length_eq_zero h0
    subst hnil
    clear hV hV0 hone
    go_enter Tryz.func96, Tryz.ntmps96
    go_wp2
    go_ret
    exact ⟨_, rfl, Row.nil _ _ _, by simp [foot_nil], Chg.refl _ _⟩
  · have HV := Lib.hid hV0
    clear hV hV0 ht hg hcs hm hc
    obtain ⟨n, hn⟩ : ∃ n, n = l.length := ⟨_, rfl⟩
    rw [← hn] at HV hl ⊢
    clear hn
    go_enter Tryz.func96, Tryz.ntmps96
    go_wp2_with (at_builtin; refine wpList_append_copy _ rfl _ _ 106 (by rfl) 3 i0 _ 1 8 Tryz.underlying106 hi0 hz0 hz1 hz2 rfl (.slice (some ⟨w.heap.size, 0, none⟩) 0 0) (by rfl) ⟨by simp, .inr ⟨w.heap.size, 0, #[], rfl, Blk.new w _ _, by omega, by unfold maxLen; omega, by simp, rfl⟩⟩ (.slice (some ⟨g, 0, none⟩) n cap) n (numCells l) (by rfl) (HV.out.alloc _) hone (by unfold maxLen; omega) (by omega) (w.heap.size + 1) (by simp) ?_; intro v' w1 hr hg hf)
    go_ret
    refine ⟨_, rfl, hr, fun k hk => ?_, ((Chg.refl [] w).alloc _).grown hg (fun k hk => ?_)⟩
    · rcases hf k hk with h9 | h9
      · simp [Value.ownBlock] at h9; omega
      · omega
    · simp [Value.ownBlock] at hk; exact .inr (by omega)
end Go.Proofs
end
section
namespace Go.Proofs
open Go.RowKit
set_option linter.unusedVariables false

/-- A copy of the table, in new blocks. -/
def Copied (t : Tab Cx) (w w' : World) : Prop := ∃ S, TabAt w' w.heap.size S t ∧ (∀ k ∈ S, w.heap.size ≤ k) ∧ Chg [] w w'
theorem Copied.mk {t : Tab Cx} {w W : World} {v1 v2 : Value} (hB : Blk W w.heap.size 108 #[.int .i64 t.size, .int .u64 t.first, v1, v2, .int .i64 t.retired]) (h1 : Row W 121 6 v1 t.spots.length (spotCells t.spots)) (h2 : Row W 3 1 v2 t.freed.length (numCells t.freed))
    (f1 : ∀ k ∈ foot v1, w.heap.size ≤ k) (f2 : ∀ k ∈ foot v2, w.heap.size ≤ k) (hc : Chg [] w W) : Copied t w W :=
  ⟨_, ⟨v1, v2, hB, h1, h2, rfl⟩, fun k hk => by
    simp at hk
    rcases hk with rfl | hk | hk
    · exact Nat.le_refl _
    · exact f1 k hk
    · exact f2 k hk, hc⟩
set_option maxRecDepth 100000 in
set_option maxHeartbeats 3200000 in
theorem tcopy_any {w : World} {g : Nat} {S : List Nat} {t : Tab Cx} (h : TabAt w g S t) (hw : t.WF) :
    Calls Tryz.prog 60 #[.pointer (some ⟨g, 0, none⟩)] w fun e w' => e = .returned (.pointer (some ⟨w.heap.size, 0, none⟩)) ∧ Copied t w w' := by
  have h0 := h
  obtain ⟨VS, VF, hB, hS, hF, hSS⟩ := h
  obtain ⟨A, c, rfl, _⟩ := hS.val
  obtain ⟨A', c', rfl, _⟩ := hF.val
  obtain ⟨n1, hn1⟩ : ∃ n, n = t.spots.length := ⟨_, rfl⟩
  obtain ⟨n2, hn2⟩ : ∃ n, n = t.freed.length := ⟨_, rfl⟩
  have hl1 : t.spots.length ≤ 4096 := by have := hw.len; have := hw.s1; omega
  have hl2 : t.freed.length ≤ 4096 := by have := hw.freed_len; omega
  have lg := hB.lt
  have hne : g ≠ w.heap.size := by omega
  have HS : Hid (Row w 121 6 (.slice A n1 c) t.spots.length (spotCells t.spots)) := Lib.hid (by rw [hn1]; exact hS)
  have HF : Hid (Row w 3 1 (.slice A' n2 c') t.freed.length (numCells t.freed)) := Lib.hid (by rw [hn2]; exact hF)
  have HB := Lib.hid hB
  have b0 := hB.cell 0
  have b1 := hB.cell 1
  have b2 := hB.cell 2
  have b3 := hB.cell 3
  have b4 := hB.cell 4
  obtain ⟨Z, hZ⟩ : ∃ Z, Z = t.size := ⟨_, rfl⟩
  obtain ⟨F, hFi⟩ : ∃ F, F = t.first := ⟨_, rfl⟩
  obtain ⟨R, hR⟩ : ∃ R, R = t.retired := ⟨_, rfl⟩
  rw [← hZ] at b0
  rw [← hFi] at b1
  rw [← hR] at b4
  have HZ := Lib.hid hZ
  have HFi := Lib.hid hFi
  have HR := Lib.hid hR
  have HN1 := Lib.hid hn1
  have HN2 := Lib.hid hn2
  rw [← hn1] at b2
  rw [← hn2] at b3
  clear hB hS hF hSS hZ hFi hR hn1 hn2
  go_enter Tryz.func60, Tryz.ntmps60
  go_wp2_with (go_at_call 90; refine (none_C h0 hw).mono ?_; rintro e w' ⟨rfl, rfl⟩)
  have HCC := Lib.hid (((Chg.refl [] w).alloc (.cells #[.int .i64 Z, .int .u64 F, (.slice A n1 c), (.slice A' n2 c'), .int .i64 R] 108)).drew)
  have HBX := Lib.hid ((Blk.new w 108 #[.int .i64 Z, .int .u64 F, (.slice A n1 c), (.slice A' n2 c'), .int .i64 R]).drew)
  go_region_held3 (fun w' => w'.cell? ⟨g, 2, none⟩ = some (.slice A n1 c) ∧ w'.cell? ⟨g, 3, none⟩ = some (.slice A' n2 c'))
    (first | go_keep | (simp [*, World.cell?_setCell_far, Ne.symm hne]))
    (first
      | (go_at_call 95; refine (clone_spots (HS.out.chg HCC.out (fun _ _ h => by cases h)) hl1).mono ?_; rintro e w1 ⟨v1, rfl, hr1, hf1, hc1⟩; obtain ⟨A1, c1, rfl, _⟩ := hr1.val; have HBX := Lib.hid (HBX.out.chg hc1 (by simp)); have HR1 := Lib.hid hr1; have HF1 := Lib.hid hf1; have HC1 := Lib.hid hc1; have HCC := Lib.hid (HCC.out.then hc1); have k2 : w1.cell? ⟨g, 2, none⟩ = some (.slice A n1 c) := (HCC.out.cell (p := ⟨g, 2, none⟩) lg (by simp)).trans b2; have k3 : w1.cell? ⟨g, 3, none⟩ = some (.slice A' n2 c') := (HCC.out.cell (p := ⟨g, 3, none⟩) lg (by simp)).trans b3; clear hr1 hf1 hc1)
      | (go_at_call 96; refine (clone_nums (HF.out.chg HCC.out (fun _ _ h => by cases h)) hl2).mono ?_; rintro e w2 ⟨v2, rfl, hr2, hf2, hc2⟩; obtain ⟨A2, c2, rfl, _⟩ := hr2.val; have hbx := HBX.out.chg hc2 (by simp); have x2 := hbx.cell 2; have x3 := hbx.cell 3; have y2 := hbx.frozen 2; have y3 := hbx.frozen 3; have HBX := Lib.hid hbx; have HR2 := Lib.hid hr2; have HF2 := Lib.hid hf2; have HC2 := Lib.hid hc2; have HCC := Lib.hid (HCC.out.then hc2); have j2 : w2.cell? ⟨g, 2, none⟩ = some (.slice A n1 c) := (HCC.out.cell (p := ⟨g, 2, none⟩) lg (by simp)).trans b2; have j3 : w2.cell? ⟨g, 3, none⟩ = some (.slice A' n2 c') := (HCC.out.cell (p := ⟨g, 3, none⟩) lg (by simp)).trans b3; clear hr2 hf2 hc2 hbx))
  have z2 := HC2.out.size
  have z1 := HC1.out.size
  simp only [World.size_drew, World.size_alloc] at z1
  have m1 : w.heap.size ∉ foot (.slice A1 t.spots.length c1) := fun hm => by have := HF1.out _ hm; simp at this; omega
  have m2 : w.heap.size ∉ foot (.slice A2 t.freed.length c2) := fun hm => by have := HF2.out _ hm; omega
  have hB2 : Blk ((w2.setCell ⟨w.heap.size, 2, none⟩ (.slice A1 t.spots.length c1)).setCell ⟨w.heap.size, 3, none⟩ (.slice A2 t.freed.length c2)) w.heap.size 108 #[.int .i64 Z, .int .u64 F, .slice A1 t.spots.length c1, .slice A2 t.freed.length c2, .int .i64 R] := (HBX.out.set_ 2 _).set_ 3 _
  have hq1 := ((HR1.out.chg HC2.out (fun _ _ h => by cases h)).far (p := ⟨w.heap.size, 2, none⟩) m1 (.slice A1 t.spots.length c1)).far (p := ⟨w.heap.size, 3, none⟩) m1 (.slice A2 t.freed.length c2)
  have hq2 := (HR2.out.far (p := ⟨w.heap.size, 2, none⟩) m2 (.slice A1 t.spots.length c1)).far (p := ⟨w.heap.size, 3, none⟩) m2 (.slice A2 t.freed.length c2)
  rw [HZ.out, HFi.out, HR.out] at hB2
  have HM := Lib.hid (Copied.mk hB2 hq1 hq2 (fun k hk => by have := HF1.out k hk; simp at this; omega) (fun k hk => by have := HF2.out k hk; omega) ((HCC.out.setCell (p := ⟨w.heap.size, 2, none⟩) (.inr (Nat.le_refl _)) _).setCell (p := ⟨w.heap.size, 3, none⟩) (.inr (Nat.le_refl _)) _))
  clear z1 z2 m1 m2 hB2 hq1 hq2
  go_wp2
  go_ret
  exact ⟨rfl, HM.out⟩
end Go.Proofs
end
section
namespace Go.Proofs
open Go.RowKit
set_option linter.unusedVariables false
set_option linter.unusedSimpArgs false
/-- A copy of the contexts, in new blocks; their lists are shared. -/
def CCopied (t : Tab Cx) (most : Int) (w w' : World) (e : Ending) : Prop := ∃ c S, e = .returned (ptr c) ∧ CtxAt w' c S t most ∧ w.heap.size ≤ c ∧ (∀ k ∈ S, w.heap.size ≤ k) ∧ Chg [] w w'
set_option maxRecDepth 100000 in
set_option maxHeartbeats 3200000 in
theorem ccopy_any {w : World} {c : Nat} {S : List Nat} {t : Tab Cx} {most : Int} (h : CtxAt w c S t most) :
    Calls Tryz.prog 20 #[ptr c] w fun e w' => CCopied t most w w' e := by
  obtain ⟨g, hB, hT, hG, hW⟩ := id h
  have HNO := Lib.hid (none_any h)
  have HCP := Lib.hid (fun W (hc : Chg [] w W) => tcopy_any (hT.quiet hc) hW)
  have HGW := Lib.hid (fun W (hc : Chg [] w W) => hG.quiet hc)
  have HW := Lib.hid hW
  have HB := Lib.hid hB
  have c0 := hB.cell 0
  have c1 := hB.cell 1
  have lc := hB.lt
  clear h hB hT hG hW
  go_enter Tryz.func20, Tryz.ntmps20
  go_wp2_with (go_at_call 49; refine HNO.out.mono ?_; rintro e w0 ⟨rfl, hc0⟩; have HC0 := Lib.hid hc0; have hb0 := HB.out.chg hc0 (by simp); have d0 := hb0.cell 0; have d1 := hb0.cell 1; have ld := hb0.lt; clear hc0 hb0)
  go_region_held3 (fun w' => w'.cell? ⟨c, 0, none⟩ = some (.pointer (some ⟨g, 0, none⟩)) ∧ w'.cell? ⟨c, 1, none⟩ = some (.int .i64 most))
    (first | go_keep)
    (first
      | (go_at_call 60; refine (HCP.out _ (HC0.out.drew)).mono ?_; rintro e w1 ⟨rfl, S1, hT1, hS1, hc1⟩; have HT1 := Lib.hid hT1; have HS1 := Lib.hid hS1; have HC1 := Lib.hid ((HC0.out.drew).then hc1); have hb1 := HB.out.chg HC1.out (by simp); have k0 := hb1.cell 0; have k1 := hb1.cell 1; clear hT1 hS1 hc1 hb1))
  all_goals
    go_wp2
    go_ret
    have hcc : Chg [] w1 (w1.alloc (.cells #[.pointer (some ⟨w0.drew.heap.size, 0, none⟩), .int .i64 most] 66)) := (Chg.refl _ _).alloc _
    exact ⟨_, S1, rfl, ⟨_, Blk.new _ _ _, HT1.out.quiet hcc, HGW.out _ (HC1.out.then hcc), HW.out⟩, HC1.out.size, fun k hk => Nat.le_trans HC0.out.size (HS1.out k hk), HC1.out.then hcc⟩
theorem plCells_one (l : List Pl) : ∀ u ∈ plCells l, u.oneCell' = true := by
  intro u hu
  unfold plCells at hu
  rw [List.mem_flatMap] at hu
  obtain ⟨s, _, hs⟩ := hu
  simp [Pl.cells] at hs
  rcases hs with rfl | rfl | rfl | rfl | rfl | rfl | rfl <;> rfl
def RCopied (r : RTab) (w w' : World) (e : Ending) : Prop := ∃ h S, e = .returned (.pointer (some ⟨h, 0, none⟩)) ∧ RefAt w' h S r ∧ (∀ k ∈ S, w.heap.size ≤ k) ∧ Chg [] w w'
set_option maxRecDepth 100000 in
set_option maxHeartbeats 1600000 in
theorem rcopy_any {w : World} {h : Nat} {S : List Nat} {r : RTab} (hr : RefAt w h S r) (hn : r.L.length ≤ 4096) (h0 : 0 < r.L.length) :
    Calls Tryz.prog 21 #[.pointer (some ⟨h, 0, none⟩)] w fun e w' => RCopied r w w' e := by
  obtain ⟨i0, hi0, hz0, hz1, hz2⟩ := info_parts pl_info
  obtain ⟨VL, hB, hL, _, hGG⟩ := hr
  have HGG := Lib.hid hGG
  obtain ⟨gl, cl, rfl, _, hcl, hcell, _, lgl⟩ := hL.form h0
  have lh := hB.lt
  have a0 := hB.cell 0
  have a1 := hB.cell 1
  have a2 := hB.cell 2
  have hone := plCells_one r.L
  have hlen := plCells_len r.L
  obtain ⟨n, hnn⟩ : ∃ n, n = r.L.length := ⟨_, rfl⟩
  obtain ⟨T, hT⟩ : ∃ T, T = r.times := ⟨_, rfl⟩
  rw [← hnn] at a0 hlen hn h0 hcl
  rw [← hT] at a1
  obtain ⟨M, hM⟩ : ∃ M, M = r.most := ⟨_, rfl⟩
  rw [← hM] at a2
  have HMo := Lib.hid hM
  have hadd : ∀ j, (⟨gl, 0, none⟩ : Addr).add j = ⟨gl, j, none⟩ := fun j => by unfold Addr.add; split <;> simp_all
  have hnews : ∀ j u, (plCells r.L)[j]? = some u → w.drew.cell? ((⟨gl, 0, none⟩ : Addr).add j) = some u := fun j u hu => by rw [hadd]; exact hcell j u hu
  have HNews := Lib.hid hnews
  have HOne := Lib.hid hone
  have HLen := Lib.hid hlen
  have HN := Lib.hid hnn
  have HT := Lib.hid hT
  clear hB hL hcell hone hlen hnn hT hM hadd hnews hGG
  go_enter Tryz.func21, Tryz.ntmps21
  go_wp2
  go_region_law
    ((refine step_append_row _ (by rfl) _ _ _ (by rfl) 54 i0 _ 7 72 Tryz.underlying50 hi0 hz0 hz1 hz2 rfl (.slice none 0 0) 0 [] (by rfl) (Row.nil _ _ _) ⟨gl, 0, none⟩ n cl (plCells r.L) (by rfl) HLen.out HNews.out HOne.out h0 (by unfold maxLen; omega) (by omega) w.heap.size (by rfl) ?_; intro g cap w1 hown hgrow hat hlt1; have y0 : w1.cell? ⟨h, 0, none⟩ = some (.slice (some ⟨gl, 0, none⟩) n cl) := (hgrow.cell_far ⟨h, 0, none⟩ lh (by simp [Value.ownBlock])).trans a0; have y1 : w1.cell? ⟨h, 1, none⟩ = some (.int .i64 T) := (hgrow.cell_far ⟨h, 1, none⟩ lh (by simp [Value.ownBlock])).trans a1; have y2 : w1.cell? ⟨h, 2, none⟩ = some (.int .i64 M) := (hgrow.cell_far ⟨h, 2, none⟩ lh (by simp [Value.ownBlock])).trans a2; have HO := Lib.hid hown; have HG := Lib.hid hgrow; have HAt := Lib.hid hat; clear hown hgrow hat))
  all_goals
    have hfin : RCopied r w (w1.alloc (.cells #[.slice (some ⟨g, 0, none⟩) (0 + n) cap, .int .i64 T, .int .i64 M] 52)) (.returned (.pointer (some ⟨w1.heap.size, 0, none⟩))) := by
      have z1 := HG.out.size
      have hO := HO.out.alloc (.cells #[.slice (some ⟨g, 0, none⟩) (0 + n) cap, .int .i64 T, .int .i64 M] 52)
      refine ⟨w1.heap.size, w1.heap.size :: foot (.slice (some ⟨g, 0, none⟩) (0 + n) cap), rfl, ⟨_, ?_, ?_, rfl, ?_⟩, ?_, ?_⟩
      · rw [← HT.out, ← HMo.out]; exact Blk.new w1 52 _
      · rw [← HN.out]; simpa using hO
      · exact fun k p hp => (HGG.out k p hp).quiet ((((Chg.refl [] w).drew).grown HG.out (fun k hk => by simp [Value.ownBlock] at hk)).alloc _)
      · intro k hk
        simp [foot_some] at hk
        have z2 : w.drew.heap.size = w.heap.size := rfl
        rcases hk with rfl | rfl
        · omega
        · rcases HAt.out with h9 | h9
          · simp [Value.ownBlock] at h9
          · omega
      · exact (((Chg.refl [] w).drew).grown HG.out (fun k hk => by simp [Value.ownBlock] at hk)).alloc _
    have HFin := Lib.hid hfin
    clear hfin
    go_wp2
    go_ret
    have e := HFin.out
    simp only [Nat.zero_add] at e
    exact e
end Go.Proofs
end
section
namespace Go.Proofs
open Go.RowKit
set_option linter.unusedVariables false
set_option linter.unusedSimpArgs false
set_option maxHeartbeats 3200000 in
set_option maxRecDepth 100000 in
theorem eq97_any {w : World} {v1 v2 : Value} {l1 l2 : List Rf} (h1 : In w v1 l1) (h2 : In w v2 l2) (hn : l1.length ≤ 100000) :
    Calls Tryz.prog 97 #[v1, v2] w fun e w' => e = .returned (.bool (decide (l1 = l2))) ∧ Chg [] w w' := by
  obtain ⟨A1, c1, rfl, _, _, _, o1⟩ := h1.open_
  obtain ⟨A2, c2, rfl, _, _, _, o2⟩ := h2.open_
  have HC1 := Lib.hid o1
  have HC2 := Lib.hid o2
  obtain ⟨n1, e1⟩ : ∃ n, n = l1.length := ⟨_, rfl⟩
  obtain ⟨n2, e2⟩ : ∃ n, n = l2.length := ⟨_, rfl⟩
  rw [← e1, ← e2]
  rw [← e1] at hn
  have E1 := Lib.hid e1
  have E2 := Lib.hid e2
  clear h1 h2 o1 o2
  by_cases hne : n1 = n2
  · obtain rfl := hne
    have hb : ((n1 : Int) != (n1 : Int)) = false := by simp
    clear e1 e2
    go_enter Tryz.func97, Tryz.ntmps97
    go_wp2
    go_loopg [13] n1 (fun gh s wx => ∃ k : Nat, k + gh = n1 ∧ s = .int .i64 k ∧ Hid ((∀ j, j < k → l1[j]? = l2[j]?) ∧ Chg [] w wx))
    case atStart => exact ⟨0, by omega, rfl, Lib.hid ⟨fun j hj => by omega, Chg.refl _ _⟩⟩
    case round =>
      obtain ⟨k, hk, rfl, HR⟩ := hrel
      by_cases hlt : k < n1
      · have k0 : (0 : Int) ≤ (k : Int) := by omega
        have k1 : (k : Int) < (n1 : Int) := by omega
        obtain ⟨x, hx⟩ : ∃ x, l1[k]? = some x := ⟨_, List.getElem?_eq_getElem (by rw [← E1.out]; exact hlt)⟩
        obtain ⟨y, hy⟩ : ∃ y, l2[k]? = some y := ⟨_, List.getElem?_eq_getElem (by rw [← E2.out]; exact hlt)⟩
        obtain ⟨b1, o1, rfl, lb1, p0, p1⟩ := HC1.out k x hx
        obtain ⟨b2, o2, rfl, lb2, q0, q1⟩ := HC2.out k y hy
        have hc := HR.out.2
        have x0 := (hc.cell (p := ⟨b1, o1 + k * 2, none⟩) lb1 (by simp)).trans p0
        have x1 := (hc.cell (p := ⟨b1, o1 + k * 2 + 1, none⟩) lb1 (by simp)).trans p1
        have y0 := (hc.cell (p := ⟨b2, o2 + k * 2, none⟩) lb2 (by simp)).trans q0
        have y1 := (hc.cell (p := ⟨b2, o2 + k * 2 + 1, none⟩) lb2 (by simp)).trans q1
        have HX := Lib.hid hx
        have HY := Lib.hid hy
        clear hx hy hc p0 p1 q0 q1
        obtain ⟨xa, xi⟩ := x
        obtain ⟨ya, yi⟩ := y
        simp only at x0 x1 y0 y1
        by_cases hxy : xa = ya ∧ xi = yi
        · have hq := rf_yes hxy
          have HS := Lib.hid (show ∀ j, j < k + 1 → l1[j]? = l2[j]? from fun j hj => by
            by_cases e : j = k
            · subst e; rw [HX.out, HY.out, hxy.1, hxy.2]
            · exact HR.out.1 j (by omega))
          clear hxy
          go_wp2
          go_quiet (fail)
          go_wp2
          go_roundg (n1 - k - 1)
          case measure => omega
          case rel => exact ⟨k + 1, by omega, by go_num, Lib.hid ⟨HS.out, HR.out.2.drewN _⟩⟩
        · have hq := rf_no hxy
          have HD := Lib.hid (show decide (l1 = l2) = false from decide_eq_false (fun e => hxy (by
            have h := HY.out
            rw [← e, HX.out] at h
            simpa using h)))
          clear hxy
          go_wp2
          go_quiet (fail)
          go_wp2
          go_ret
          exact ⟨by rw [HD.out]; rfl, HR.out.2.drewN _⟩
      · obtain rfl : k = n1 := by omega
        go_wp2
        go_ret
        have HE : l1 = l2 := by
          refine List.ext_getElem? fun j => ?_
          by_cases hj : j < k
          · exact HR.out.1 j hj
          · rw [List.getElem?_eq_none (by rw [← E1.out]; omega), List.getElem?_eq_none (by rw [← E2.out]; omega)]
        exact ⟨by rw [decide_eq_true HE]; rfl, HR.out.2⟩
  · have hb : ((n1 : Int) != (n2 : Int)) = true := by simp; omega
    have HD := Lib.hid (show decide (l1 = l2) = false from decide_eq_false (fun e => hne (by rw [e1, e2, e])))
    clear hne e1 e2
    go_enter Tryz.func97, Tryz.ntmps97
    go_wp2
    go_ret
    exact ⟨by rw [HD.out]; rfl, Chg.refl _ _⟩
set_option maxHeartbeats 1600000 in
set_option maxRecDepth 100000 in
theorem equal63_any {w : World} {x y : Cx} (hx : Rd w x.v x.l) (hy : Rd w y.v y.l) (hn : x.l.length ≤ 100000) :
    Calls Tryz.prog 63 #[.agg #[.int .u64 x.b, .int .u64 x.p, .slice x.a x.m x.c, .int .i64 x.n], .agg #[.int .u64 y.b, .int .u64 y.p, .slice y.a y.m y.c, .int .i64 y.n]] w fun e w' => e = .returned (.bool (sameB x y)) ∧ Chg [] w w' := by
  have HS := Lib.hid (fun W (hW : Chg [] w W) => eq97_any (hx.quiet hW).inn (hy.quiet hW).inn hn)
  unfold sameB
  obtain ⟨xb, xp, xa, xm, xc, xn, xl⟩ := x
  obtain ⟨yb, yp, ya, ym, yc, yn, yl⟩ := y
  obtain ⟨D, hD⟩ : ∃ D, D = decide (xl = yl) := ⟨_, rfl⟩
  simp only [← hD] at HS ⊢
  clear hx hy hn hD
  cases h1 : (xb == yb) with
  | false =>
    go_enter Tryz.func63, Tryz.ntmps63
    go_wp2
    go_ret
    exact ⟨rfl, by repeat' (first | with_reducible exact Chg.refl [] _ | with_reducible apply Chg.alloc | with_reducible apply Chg.drew)⟩
  | true =>
  cases h2 : (xp == yp) with
  | false =>
    go_enter Tryz.func63, Tryz.ntmps63
    go_wp2
    go_ret
    exact ⟨rfl, by repeat' (first | with_reducible exact Chg.refl [] _ | with_reducible apply Chg.alloc | with_reducible apply Chg.drew)⟩
  | true =>
  cases h3 : (xn == yn) with
  | false =>
    go_enter Tryz.func63, Tryz.ntmps63
    go_wp2
    go_ret
    exact ⟨rfl, by repeat' (first | with_reducible exact Chg.refl [] _ | with_reducible apply Chg.alloc | with_reducible apply Chg.drew)⟩
  | true =>
    go_enter Tryz.func63, Tryz.ntmps63
    go_wp2_with (go_at_call 97; refine (HS.out _ (((Chg.refl [] w).alloc _).alloc _)).mono ?_; rintro e w1 ⟨rfl, hc⟩; have HC := Lib.hid ((((Chg.refl [] w).alloc _).alloc _).then hc); clear hc)
    go_ret
    exact ⟨by simp, HC.out⟩
end Go.Proofs
end
section
namespace Go.Proofs
open Go.RowKit Go.Shelf
set_option linter.unusedVariables false
set_option linter.unusedSimpArgs false
attribute [local go_sem] Oper.semAt_some

theorem blk_keep {A B : World} {b : Nat} {t : TypeId} {cs : Array Value} {row : Option Nat} (h : Blk A b t cs) (hg : A.grownBy B row) (hr : ∀ r, row = some r → ∃ o : Obj, A.heap[r]? = some o ∧ o.isCells = false) : Blk B b t cs :=
  h.same (hg.block b h.lt (fun e => by
    obtain ⟨o, ho, hc⟩ := hr b e.symm
    unfold Blk at h
    rw [h] at ho; cases ho; cases hc))
theorem row_keep {A B : World} {e : TypeId} {size n : Nat} {v : Value} {xs : List Value} {row : Option Nat} (h : Row A e size v n xs) (hg : A.grownBy B row) (hr : ∀ r, row = some r → ∃ o : Obj, A.heap[r]? = some o ∧ o.isCells = false) : Row B e size v n xs := by
  refine ⟨h.1, ?_⟩
  rcases h.2 with h0 | ⟨g, cap, cur, rfl, hb, r⟩
  · exact .inl h0
  · exact .inr ⟨g, cap, cur, rfl, blk_keep hb hg hr, r⟩
theorem FreshN.keep {D : Nat} {xs : List Nam} {x : Nam} {A B : World} {row : Option Nat} (h : FreshN D xs x A) (hg : A.grownBy B row) (hr : ∀ r, row = some r → ∃ o : Obj, A.heap[r]? = some o ∧ o.isCells = false) : FreshN D xs x B := ⟨row_keep h.1 hg hr, h.2⟩
theorem Chg.grown0 {S : List Nat} {w A B : World} {row : Option Nat} (h : Chg S w A) (hg : A.grownBy B row) (hr : ∀ k, row = some k → w.heap.size ≤ k) : Chg S w B := h.grown hg (fun k hk => .inr (hr k hk))
/-- What holds in the midst of the rounds over all contexts. -/
def SumI (b : Nat) (w4 : World) (pre : List Nam) (V : World) : Prop := Blk V b 32 #[.int .u64 (allB pre)] ∧ (∀ p ∈ pre, 1 ≤ p.x.b ∧ p.x.b ≤ 4294967296) ∧ Chg [b] w4 V
theorem SumI.own {b C : Nat} {w4 : World} (hC : w4.heap.size ≤ C) : OwnFrom C (SumI b w4) := by
  rintro pre A B row ⟨h1, h2, h3⟩ hg hr
  exact ⟨blk_keep h1 hg (fun r e => (hr r e).2), h2, h3.grown0 hg (fun k e => Nat.le_trans hC (hr k e).1)⟩
theorem Chg.then_below {n : Nat} {S : List Nat} {w A B : World} (k : Chg S w A) (h : Below n A B) (hn : w.heap.size ≤ n) : Chg S w B := ⟨h.os.trans k.os, h.tape.trans k.tape, h.output.trans k.output, Nat.le_trans k.size h.size, fun j hj hm => (h.block j (by omega)).trans (k.block j hj hm)⟩
/-- All, of a pair. -/
theorem All_pair {W1 W2 : World} {c h : Nat} {S SR : List Nat} {t : Tab Cx} {r : RTab} {most M : Int} (P : Pair W1 c S h SR t r most M) (hc : Chg [] W1 W2) :
    Calls Tryz.prog 14 #[ptr c] W2 fun e w' => ∃ BB, e = .returned (.func (.func 45) #[] #[ptr BB]) ∧ Below W2.heap.size W2 w' ∧ ∃ N : Nat, (t.size = (N : Nat) ∧ N ≤ 32) ∧
      ∀ X : Nat → Prop, (∀ k, W2.heap.size ≤ k → k < w'.heap.size → X k) → (∀ k, k < W1.heap.size → X k) → (∀ k, X k → k < w'.heap.size) → Over X w' BB (nowL t N) := by
  obtain ⟨N, hN⟩ : ∃ N : Nat, t.size = (N : Nat) := ⟨t.size.toNat, by have := P.ct.wf.s0; omega⟩
  have hs := P.inv.size
  refine (All_any (P.ct.quiet hc) hN (fun k s hk ht => ?_)).mono ?_
  · have := (P.inv.xs k s hk ht).len
    have := P.inv.m1
    omega
  · rintro e w' ⟨BB, h1, h2, h3⟩
    exact ⟨BB, h1, h2, N, ⟨hN, by omega⟩, fun X a b d => h3 X a (fun k s hk ht j hj => b j ((P.ct.good k s hk).lt j hj)) d⟩
/-- What is known of one that comes. -/
theorem fresh_ok {W1 : World} {c h N : Nat} {S SR : List Nat} {t : Tab Cx} {r : RTab} {most M : Int} (P : Pair W1 c S h SR t r most M) (hN : t.size = (N : Nat)) (x : Nam) (hx : ∃ p ∈ nowL t N, x.strip = p.strip) :
    1 ≤ x.x.b ∧ x.x.b ≤ 4294967296 ∧ Ok x.x.l ∧ mayP x.x.l = true ∧ sumP x.x.l = x.x.b ∧ (x.x.l.length : Int) ≤ most := by
  obtain ⟨p, hp, he⟩ := hx
  obtain ⟨i, s, hi, hs, rfl⟩ := mem_nowL.1 hp
  obtain ⟨q1, q2⟩ := live_nat.1 hs
  have hx := P.inv.xs i s q1 q2
  obtain ⟨xi, xq, xb, xp, xa, xm, xc, xn, xl⟩ := x
  simp only [Nam.strip, Nam.mk.injEq, Cx.mk.injEq] at he
  obtain ⟨_, _, rfl, rfl, _, _, _, rfl, rfl⟩ := he
  exact ⟨hx.b0, hx.b1, hx.ok, hx.may, hx.sum, hx.len⟩
theorem ex_frameT {x0 x1 x2 x3 x4 x5 x6 x7 x8 x9 x10 x11 x12 x13 x14 x15 x16 x17 x18 x19 x20 x21 x22 x23 x24 x25 x26 x27 x28 x29 x30 x31 x32 x33 x34 x35 x36 x37 x38 x39 x40 x41 x42 x43 x44 x45 x46 x47 x48 x49 x50 x51 x52 x53 x54 x55 x56 x57 x58 x59 x60 x61 x62 x63 x64 x65 x66 x67 x68 x69 x70 x71 x72 x73 x74 x75 x76 x77 x78 x79 x80 x81 x82 x83 x84 x85 x86 x87 x88 x89 x90 x91 x92 x93 x94 x95 x96 x97 x98 x99 x100 x101 x102 x103 x104 x105 x106 x107 x108 x109 x110 x111 x112 x113 x114 x115 x116 x117 x118 x119 x120 x121 : Value} {ds : List Deferred} {p q : Prop} (hp : p) (hq : q) :
    ∃ u : Nat → Value, p ∧ ({ tmps := #[x0, x1, x2, x3, x4, x5, x6, x7, x8, x9, x10, x11, x12, x13, x14, x15, x16, x17, x18, x19, x20, x21, x22, x23, x24, x25, x26, x27, x28, x29, x30, x31, x32, x33, x34, x35, x36, x37, x38, x39, x40, x41, x42, x43, x44, x45, x46, x47, x48, x49, x50, x51, x52, x53, x54, x55, x56, x57, x58, x59, x60, x61, x62, x63, x64, x65, x66, x67, x68, x69, x70, x71, x72, x73, x74, x75, x76, x77, x78, x79, x80, x81, x82, x83, x84, x85, x86, x87, x88, x89, x90, x91, x92, x93, x94, x95, x96, x97, x98, x99, x100, x101, x102, x103, x104, x105, x106, x107, x108, x109, x110, x111, x112, x113, x114, x115, x116, x117, x118, x119, x120, x121], defers := ds } : Act) = { tmps := #[x0, x1, x2, u 3, x4, u 5, x6, x7, u 8, x9, x10, x11, x12, u 13, x14, u 15, u 16, u 17, u 18, u 19, u 20, u 21, u 22, u 23, u 24, u 25, u 26, u 27, u 28, u 29, u 30, u 31, u 32, u 33, u 34, u 35, u 36, u 37, u 38, u 39, u 40, u 41, u 42, u 43, u 44, u 45, u 46, u 47, u 48, u 49, u 50, u 51, u 52, u 53, u 54, u 55, u 56, u 57, u 58, u 59, u 60, u 61, u 62, u 63, u 64, u 65, u 66, u 67, u 68, u 69, u 70, u 71, u 72, u 73, u 74, u 75, u 76, u 77, u 78, u 79, u 80, u 81, u 82, u 83, u 84, u 85, u 86, u 87, u 88, u 89, u 90, u 91, u 92, u 93, u 94, u 95, u 96, u 97, u 98, u 99, u 100, u 101, u 102, u 103, u 104, u 105, u 106, u 107, u 108, u 109, u 110, u 111, u 112, u 113, u 114, u 115, u 116, u 117, u 118, u 119, u 120, u 121], defers := ds } ∧ q :=
  ⟨fun i => #[x0, x1, x2, x3, x4, x5, x6, x7, x8, x9, x10, x11, x12, x13, x14, x15, x16, x17, x18, x19, x20, x21, x22, x23, x24, x25, x26, x27, x28, x29, x30, x31, x32, x33, x34, x35, x36, x37, x38, x39, x40, x41, x42, x43, x44, x45, x46, x47, x48, x49, x50, x51, x52, x53, x54, x55, x56, x57, x58, x59, x60, x61, x62, x63, x64, x65, x66, x67, x68, x69, x70, x71, x72, x73, x74, x75, x76, x77, x78, x79, x80, x81, x82, x83, x84, x85, x86, x87, x88, x89, x90, x91, x92, x93, x94, x95, x96, x97, x98, x99, x100, x101, x102, x103, x104, x105, x106, x107, x108, x109, x110, x111, x112, x113, x114, x115, x116, x117, x118, x119, x120, x121].getD i undef, hp, rfl, hq⟩
set_option maxRecDepth 100000 in
set_option maxHeartbeats 12800000 in
theorem sums_any (size most : Int) (V : Value) (l : List ActC) (w : World) (hV : Acts w V l) :
    Calls Tryz.prog 4 #[.int .i64 size, .int .i64 most, V] w fun e w' => e = .returned (.bool true) ∧ Chg [] w w' := by
  obtain ⟨A, c9, rfl⟩ := hV.open_
  obtain ⟨m, hm⟩ : ∃ m, m = l.length := ⟨_, rfl⟩
  rw [← hm] at hV ⊢
  have HV := Lib.hid hV
  clear hV hm
  have hcb : Chg [] w ((w.alloc (.cells #[.int .i64 most] 3)).alloc (.cells #[.bool false] 4)) := ((Chg.refl [] w).alloc _).alloc _
  have B4 : Blk ((w.alloc (.cells #[.int .i64 most] 3)).alloc (.cells #[.bool false] 4)) w.heap.size 3 #[.int .i64 most] := (Blk.new w 3 _).alloc _
  have B6 : Blk ((w.alloc (.cells #[.int .i64 most] 3)).alloc (.cells #[.bool false] 4)) (w.heap.size + 1) 4 #[.bool false] := Blk.at (w.alloc _) 4 _ (by simp)
  have HB4 := Lib.hid B4
  have HB6 := Lib.hid B6
  have HCB := Lib.hid hcb
  clear B4 B6 hcb
  refine (callsIn_wide (n := 12)).1 ?_
  refine callsIn_of_wp_marks Tryz.func4 rfl trivial ?_ rfl
  simp only [Tryz.ntmps4, List.size_toArray, List.length_cons, List.length_nil, Nat.reduceAdd, Nat.reduceSub, Array.replicate_succ, Array.replicate_zero, List.push_toArray, List.append_toArray, List.nil_append, List.cons_append]
  have HEND : Hid (∀ W1 tmps, Chg [] ((w.alloc (.cells #[.int .i64 most] 3)).alloc (.cells #[.bool false] 4)) W1 → tmps[6]? = some (Value.pointer (some ⟨w.heap.size + 1, 0, none⟩)) → LeavesIn Fence.wide 12 Tryz.prog Tryz.f4 tmps (fun e w' => e = .returned (.bool true) ∧ Chg [] w w') [] .returning (W1.setCell ⟨w.heap.size + 1, 0, none⟩ (.bool true))) := Lib.hid (fun W1 tmps hc ht => by
    have h := (HB6.out.chg hc (by simp)).set_ 0 (.bool true)
    have h0 := h.cell 0
    simp at h0
    refine ⟨.bool true, ?_, rfl, (HCB.out.then hc).setCell (p := ⟨w.heap.size + 1, 0, none⟩) (.inr (by simp)) _⟩
    simp [results, Tryz.f4, go_sem, h0, Result.andThen, ht])
  by_cases hbig : 120 < (m : Int)
  · have d1 : decide ((m : Int) > 120) = true := by simpa using hbig
    gi_wp2
    refine ⟨trivial, ?_⟩
    gi_wp2_with (refine ⟨trivial, ?_⟩; gi_at_call 8; refine (callsIn_wide.2 (known_any _)).mono ?_; rintro e w1 ⟨rfl, hc⟩; have q6 := HB6.out.chg hc (by simp); have q0 := q6.cell 0; have qf := q6.frozen 0)
    exact HEND.out _ _ hc (by simp)
  have d1 : decide ((m : Int) > 120) = false := by simpa using hbig
  cases hmay : mayC size most with
  | false =>
    have HM := Lib.hid hmay
    clear hmay
    gi_wp2_with (first
      | (refine ⟨trivial, ?_⟩; gi_at_call 10; refine (callsIn_wide.2 (May_any _ _ _)).mono ?_; rintro e w1 ⟨rfl, rfl⟩; rw [HM.out])
      | (refine ⟨trivial, ?_⟩; gi_at_call 8; refine (callsIn_wide.2 (known_any _)).mono ?_; rintro e w1 ⟨rfl, hc⟩; have q6 := HB6.out.chg hc (by simp); have q0 := q6.cell 0; have qf := q6.frozen 0))
    exact HEND.out _ _ hc (by simp)
  | true =>
    have HM := Lib.hid hmay
    clear hmay
    gi_wp2_with (first
      | (refine ⟨trivial, ?_⟩; gi_at_call 10; refine (callsIn_wide.2 (May_any _ _ _)).mono ?_; rintro e w1 ⟨rfl, rfl⟩; rw [HM.out])
      | (refine ⟨trivial, ?_⟩; gi_at_call 9; refine (callsIn_wide.2 (New_yes _ HM.out)).mono ?_; rintro e w1 ⟨c, g, rfl, hT, lc, lg, hc⟩; have HT := Lib.hid (Btw.new HM.out hT lg hc); have q4 := HB4.out.chg hc (by simp); have q40 := q4.cell 0; clear hT hc q4)
      | (refine ⟨trivial, ?_⟩; gi_at_call 11; refine (callsIn_wide.2 HT.out).mono ?_; rintro e w3 ⟨h, rfl, _, S, SR, t, r, hP, hz, k1, k2, hcw⟩; have HB := Lib.hid (show BtwT _ c h most 0 0 w3 from ⟨S, SR, t, r, hP, hz, k1, k2, hcw⟩); clear hP hz k1 k2 hcw))
    obtain ⟨Wb, hWb⟩ : ∃ Wb, (w.alloc (.cells #[.int .i64 most] 3)).alloc (.cells #[.bool false] 4) = Wb := ⟨_, rfl⟩
    rw [hWb] at HB HB4 HB6 HCB HEND
    clear hWb HT
    refine wpIn_loop_ghost_k (fun j a' W => ∃ (k : Nat) (T : Int) (Ds : List Nat) (u : Nat → Value), (j = m - k ∧ k ≤ m) ∧ a' = { tmps := #[.int .i64 size, .int .i64 most, .slice A m c9, u 3, .pointer (some ⟨w.heap.size, 0, none⟩), u 5, .pointer (some ⟨w.heap.size + 1, 0, none⟩), .pointer (some ⟨c, 0, none⟩), u 8, .pointer (some ⟨h, 0, none⟩), .int .u64 T, .int .i64 (k : Nat), u 12, u 13, u 14, u 15, u 16, u 17, u 18, u 19, u 20, u 21, u 22, u 23, u 24, u 25, u 26, u 27, u 28, u 29, u 30, u 31, u 32, u 33, u 34, u 35, u 36, u 37, u 38, u 39, u 40, u 41, u 42, u 43, u 44, u 45, u 46, u 47, u 48, u 49, u 50, u 51, u 52, u 53, u 54, u 55, u 56, u 57, u 58, u 59, u 60, u 61, u 62, u 63, u 64, u 65, u 66, u 67, u 68, u 69, u 70, u 71, u 72, u 73, u 74, u 75, u 76, u 77, u 78, u 79, u 80, u 81, u 82, u 83, u 84, u 85, u 86, u 87, u 88, u 89, u 90, u 91, u 92, u 93, u 94, u 95, u 96, u 97, u 98, u 99, u 100, u 101, u 102, u 103, u 104, u 105, u 106, u 107, u 108, u 109, u 110, u 111, u 112, u 113, u 114, u 115, u 116, u 117, u 118, u 119, u 120, u 121], defers := marks Ds } ∧ BtwT Wb c h most k T W ∧ Marks Wb.heap.size W Ds) m ?start ?round
    case start =>
      exact ⟨0, 0, [], ex_frameS ⟨by omega, by omega⟩ ⟨HB.out, List.nodup_nil, fun D hD => by cases hD⟩⟩
    case round =>
      rintro j a' W ⟨k, T, Ds, u, ⟨rfl, hk⟩, rfl, hB, hM⟩ J K hJ hK
      have hc := hB.chg0
      have q4 := HB4.out.chg hc (by simp)
      have q6 := HB6.out.chg hc (by simp)
      have a4 := q4.cell 0
      have a6 := q6.cell 0
      have f6 := q6.frozen 0
      simp only [List.getElem?_toArray, List.getElem?_cons_zero] at a4 a6
      by_cases hlt : k < m
      · obtain ⟨b, off, kind, ri, rq, ti, tq, a2, b2, Tm, rfl, hat, hfit, hcs⟩ := HV.out.is_ hlt
        obtain ⟨e0, e1, e2, e3, e4, e5, e6, e7⟩ := hcs _ (HCB.out.then hc)
        have HIS := Lib.hid hcs
        have i0 : (0 : Int) ≤ (k : Int) := by omega
        have i1 : (k : Int) < (m : Int) := by omega
        have HD := hB.does hM (by omega) _ hfit
        simp only [ActC.cells] at HD
        clear hB hM hfit hat hcs
        gi_wp2_with (first
          | (refine ⟨trivial, ?_⟩; gi_at_call 12; refine (callsIn_wide.2 HD).mono ?_; rintro e W1 ⟨rfl, hM1, T1, hB1, hT1⟩; have HM1 := Lib.hid hM1; have HB1 := Lib.hid hB1; have HT1 := Lib.hid hT1; obtain ⟨S, SR, t, r, hP, htot, hS, hSR, hcP⟩ := hB1; have HP1 := Lib.hid hP; have HTO := Lib.hid htot; have HCP := Lib.hid hcP; have HAL := Lib.hid (All_pair hP ((Chg.refl [] W1).alloc (.cells #[.int .u64 0] 32))); have q4 := HB4.out.chg hcP (by simp); have q40 := q4.cell 0; clear hM1 hT1 hP htot hS hSR hcP q4)
          | (refine ⟨trivial, ?_⟩; gi_at_call 14; refine (callsIn_wide.2 HAL.out).mono ?_; rintro e w4 ⟨BB, rfl, hb4, N, hN, hO⟩; have HO := Lib.hid hO; have HB4' := Lib.hid hb4; have HN := Lib.hid hN; clear hO hb4 hN))
        have hP1 := HP1.out
        have hb4 := HB4'.out
        obtain ⟨hN, hN32⟩ := HN.out
        have z1 : W1.heap.size + 1 ≤ w4.heap.size := by have := hb4.size; simpa using this
        have hc14 : Chg [] W1 w4 := ((Chg.refl [] W1).alloc (.cells #[.int .u64 0] 32)).then (Chg.of_below hb4)
        have hsb : Blk w4 W1.heap.size 32 #[.int .u64 0] := (Blk.new W1 32 _).same (hb4.block _ (by simp))
        have hfx := fresh_ok hP1 (N := N) hN
        have hlx : (nowL t N).length ≤ 32 := by have := nowL_len t N; omega
        have hxs := allB_tot hN
        have hov := HO.out (fun k => k < w4.heap.size ∧ k ≠ W1.heap.size) (fun k h1 h2 => ⟨h2, by simp at h1; omega⟩) (fun k hk => ⟨by omega, by omega⟩) (fun k hk => hk.1)
        have HFX := Lib.hid hfx
        have HXS := Lib.hid hxs
        have HC14 := Lib.hid hc14
        have HLX := Lib.hid hlx
        have HZ := Lib.hid z1
        clear hP1 hfx hxs hlx
        refine wpIn_rangeFunc_told rfl (by omega) (gf := 45) (lb := #[.pointer (some ⟨BB, 0, none⟩)]) rfl trivial (enters_of Tryz.func45 (by kernel_rfl) rfl)
          (over_tells (12 - 1) (by omega) hov (D := w4.heap.size) (fun k hk => hk.1) (Nat.le_refl _)) (fun h k => h.trans k)
          (fun Wq o o' hk ho => Kp85.turn Wq hk ho (fun h => by have := h.1; omega))
          (Below.refl _ _) (fun _ => rfl)
          (SumI W1.heap.size w4) (fun _ _ _ => False) (SumI.own (Nat.le_refl _)) (fun _ _ _ _ _ hs _ _ => hs)
          ⟨hsb, fun p hp => (by cases hp), (Chg.refl _ _)⟩
          (fun x a' Vq => FreshN w4.heap.size (nowL t N) x Vq ∧ ∃ (Bx : Nat) (v : Nat → Value), (w4.heap.size ≤ Bx ∧ Blk Vq Bx 43 #[.int .u64 x.x.b, .int .u64 x.x.p, .slice x.x.a x.x.m x.x.c, .int .i64 x.x.n]) ∧ a' = { tmps := #[.int .i64 size, .int .i64 most, .slice (some ⟨b, off, none⟩) m c9, v 3, .pointer (some ⟨w.heap.size, 0, none⟩), v 5, .pointer (some ⟨w.heap.size + 1, 0, none⟩), .pointer (some ⟨c, 0, none⟩), v 8, .pointer (some ⟨h, 0, none⟩), .int .u64 T, .int .i64 (k : Nat), .pointer (some ⟨W1.heap.size, 0, none⟩), v 13, .pointer (some ⟨Bx, 0, none⟩), v 15, v 16, v 17, v 18, v 19, v 20, v 21, v 22, v 23, v 24, v 25, v 26, v 27, v 28, v 29, v 30, v 31, v 32, v 33, v 34, v 35, v 36, v 37, v 38, v 39, v 40, v 41, v 42, v 43, v 44, v 45, v 46, v 47, v 48, v 49, v 50, v 51, v 52, v 53, v 54, v 55, v 56, v 57, v 58, v 59, v 60, v 61, v 62, v 63, v 64, v 65, v 66, v 67, v 68, v 69, v 70, v 71, v 72, v 73, v 74, v 75, v 76, v 77, v 78, v 79, v 80, v 81, v 82, v 83, v 84, v 85, v 86, v 87, v 88, v 89, v 90, v 91, v 92, v 93, v 94, v 95, v 96, v 97, v 98, v 99, v 100, v 101, v 102, v 103, v 104, v 105, v 106, v 107, v 108, v 109, v 110, v 111, v 112, v 113, v 114, v 115, v 116, v 117, v 118, v 119, v 120, v 121], defers := [] } ∧ True)
          (fun x a' _ Xq Yq row hs hg hr => by
            obtain ⟨h1, Bx, v, ⟨h2, h3⟩, h4⟩ := hs
            exact ⟨h1.keep hg (fun r e => (hr r e).2), Bx, v, ⟨h2, blk_keep h3 hg (fun r e => (hr r e).2)⟩, h4⟩)
          ?assign ?body ?done ?stop
        case assign =>
          rintro l' pre x Vq K2 hI hT hK2
          have hz4 := hI.2.2.size
          simp only [Nam.encs]
          gi_wp2
          have hg : Vq.grownBy (Vq.alloc (.cells #[.int .u64 x.x.b, .int .u64 x.x.p, .slice x.x.a x.x.m x.x.c, .int .i64 x.x.n] 43)) none := grown_of_chg ((Chg.refl [] Vq).alloc _)
          exact hK2 _ _ ((KeepsOthers.alloc _ _).from _) (Kp85.quiet ((Chg.refl [] Vq).alloc _) (fun k hk => by have := hk.1; omega)) (SumI.own (Nat.le_refl _) _ _ _ none hI hg (fun r e => by cases e)) ⟨hT.keep hg (fun r e => by cases e), Vq.heap.size, ex_frameT ⟨hz4, Blk.new Vq 43 _⟩ trivial⟩
        case body =>
          rintro l' pre x a' Vq hI ⟨hF, Bx, v, ⟨hBx, hBk⟩, rfl, _⟩ hlt
          obtain ⟨xi, xq, xb, xp, xa, xm, xc, xn, xl⟩ := x
          obtain ⟨hro, hft, hln, hmem⟩ := hF
          obtain ⟨p0, p1, p2, p3, p4, p5⟩ := HFX.out _ hmem
          obtain ⟨I1, I2, I3⟩ := hI
          have hbd := allB_bd pre I2
          have hpl : pre.length < 32 := by have := HLX.out; omega
          have hq4 := (HB4.out.chg (HCP.out.then (HC14.out)) (by simp)).chg I3 (by simp; have := HB4.out.lt; have := HCP.out.size; omega)
          simp only at hro hft hln hBk p0 p1 p2 p3 p4 p5
          have hrd : Rd Vq (.slice xa xm xc) xl := hro.rd
          have HSU := Lib.hid (rsum_any hrd.inn p2 hln)
          obtain ⟨s1, s2⟩ := sum_all (l := xl) (by omega)
          rw [s1, s2, p4] at HSU
          have HMY := Lib.hid (rmay_any hrd.inn p2 hln)
          rw [p3] at HMY
          obtain ⟨nl, hnl⟩ : ∃ nl, nl = xl.length := ⟨_, rfl⟩
          have hxm : xm = nl := by obtain ⟨A', c', hv, _⟩ := hrd; simp only [Value.slice.injEq] at hv; omega
          subst hxm
          rw [← hnl] at p5
          have x0 := hBk.cell 0
          have x1 := hBk.cell 1
          have x2 := hBk.cell 2
          have x3 := hBk.cell 3
          have lx := hBk.lt
          have m0 := hq4.cell 0
          have lm := hq4.lt
          have b0 := I1.cell 0
          have bf := I1.frozen 0
          have lb := I1.lt
          simp only [List.getElem?_toArray, List.getElem?_cons_succ, List.getElem?_cons_zero] at x0 x1 x2 x3 m0 b0
          have g1 : (xb != xb) = false := by simp
          have g2 : decide ((xm : Int) > most) = false := by simpa using p5
          have g2' : decide (most < (xm : Int)) = false := by simpa using p5
          have g3 : decide (xb < 1) = false := by simpa using p0
          have g4 : decide (xb > 4294967296) = false := by simpa using p1
          have g4' : decide (4294967296 < xb) = false := by simpa using p1
          have wr : IntKind.u64.wrap (allB pre + xb) = allB pre + xb := by rw [IntKind.wrap_u64]; omega
          obtain ⟨sB, hsB⟩ : ∃ sB, sB = allB pre := ⟨_, rfl⟩
          rw [← hsB] at b0 wr
          have HI1 := Lib.hid I1
          have HI2 := Lib.hid I2
          have HI3 := Lib.hid I3
          have HQ4 := Lib.hid hq4
          have HBK := Lib.hid hBk
          have HSB := Lib.hid hsB
          have HP01 := Lib.hid (And.intro p0 p1)
          have HBX := Lib.hid hBx
          clear I1 I2 I3 hq4 hBk hsB hbd hpl hro hft hln hmem hrd p0 p1 p2 p3 p4 p5 s1 s2 hnl hBx
          gi_wp2_with (first
            | (refine ⟨trivial, ?_⟩; gi_at_call 15; refine (callsIn_wide.2 HSU.out).mono ?_; rintro e V1 ⟨rfl, rfl⟩)
            | (refine ⟨trivial, ?_⟩; gi_at_call 16; refine (callsIn_wide.2 HMY.out).mono ?_; rintro e V2 ⟨rfl, hc2⟩; have HC2 := Lib.hid hc2; have hx2 := HBK.out.chg hc2 (by simp); have y0 := hx2.cell 0; have y2 := hx2.cell 2; have ly := hx2.lt; have hs2 := HI1.out.chg hc2 (by simp); have bb0 := hs2.cell 0; have bbf := hs2.frozen 0; have hm2 := HQ4.out.chg hc2 (by simp); have mm0 := hm2.cell 0; rw [← HSB.out] at bb0; simp only [List.getElem?_toArray, List.getElem?_cons_succ, List.getElem?_cons_zero] at y0 y2 bb0 mm0; clear hc2 hx2 hs2 hm2))
          have hcV : Chg [W1.heap.size] Vq (V2.setCell ⟨W1.heap.size, 0, none⟩ (.int .u64 (sB + xb))) := (HC2.out.any (S := [W1.heap.size])).setCell (p := ⟨W1.heap.size, 0, none⟩) (.inl (by simp)) _
          refine ⟨((KeepsOthers.of_chg HC2.out).trans (KeepsOthers.setCell _ _ _)).from _, Kp85.chg hcV (fun k hk => by have := hk.1; have := HI3.out.size; omega) (fun k hk => ?_), ?_, ?_, HI3.out.trans hcV (fun k hk => .inl hk)⟩
          · simp at hk
            subst hk
            exact ⟨fun h => h.2 rfl, fun cs h => Blk.ty HI1.out h (by decide) rfl⟩
          · have := (HI1.out.chg HC2.out (by simp)).set_ 0 (.int .u64 (sB + xb))
            rw [allB_snoc, ← HSB.out]
            simpa using this
          · intro p hp
            rcases List.mem_append.1 hp with h | h
            · exact HI2.out p h
            · simp at h; subst h; exact HP01.out
        case done =>
          rintro D' ys Vq hD hys ⟨I1, I2, I3⟩ hKD
          have hy : allB ys = T1 := by rw [← allB_strip ys, hys, allB_strip, HXS.out, HTO.out]
          rw [hy] at I1
          have hcq : Chg [] W1 Vq := HC14.out.trans I3 (fun k hk => .inr (by simp at hk; omega))
          obtain ⟨f0, f1, f2, f3, f4, f5, f6, f7⟩ := HIS.out _ ((HCB.out.then HCP.out).then hcq)
          have b0 := I1.cell 0
          have lb := I1.lt
          simp only [List.getElem?_toArray, List.getElem?_cons_zero] at b0
          have HBT := Lib.hid (HB1.out.quiet hcq)
          have HMK : Hid (Marks Wb.heap.size Vq (D' :: Ds)) := Lib.hid ((HM1.out.quiet hcq).cons (n := W1.heap.size) HM1.out.lt HCP.out.size (by omega) hKD)
          have HTT := HT1.out
          clear I1 I2 I3 hys hy hcq hKD
          by_cases hT : T1 = T
          · subst hT
            have g1 : (T1 != T1) = false := by simp
            gi_wp2
            exact Handed.intro (m - (k + 1)) (by omega) (hJ _ _ _ ⟨k + 1, T1, D' :: Ds, ex_frameS ⟨rfl, by omega⟩ ⟨HBT.out, HMK.out⟩⟩)
          · have g1 : (T1 != T) = true := by simpa using hT
            have hk17 : kind = 1 ∨ kind = 7 := by
              refine Classical.byContradiction fun hn => hT (HTT ?_)
              unfold keepK
              simp only [not_or] at hn
              simp [hn.1, hn.2]
            clear HTT hT
            rcases hk17 with rfl | rfl
            · have g2 : ((1 : Int) != 1) = false := by simp
              gi_wp2
              exact Handed.intro (m - (k + 1)) (by omega) (hJ _ _ _ ⟨k + 1, T1, D' :: Ds, ex_frameS ⟨rfl, by omega⟩ ⟨HBT.out, HMK.out⟩⟩)
            · have g2 : ((7 : Int) != 1) = true := by simp
              have g3 : ((7 : Int) != 7) = false := by simp
              gi_wp2
              exact Handed.intro (m - (k + 1)) (by omega) (hJ _ _ _ ⟨k + 1, T1, D' :: Ds, ex_frameS ⟨rfl, by omega⟩ ⟨HBT.out, HMK.out⟩⟩)
        case stop =>
          rintro D' c' pre Vq _ _ h _
          exact h.elim
      · obtain rfl : k = m := by omega
        have HBB := Lib.hid hB
        have HMM := Lib.hid hM
        clear hB hM
        gi_wp2_with (refine ⟨trivial, ?_⟩; gi_at_call 8; refine (callsIn_wide.2 (known_any _)).mono ?_; rintro e w5 ⟨rfl, hc5⟩; have q6' := HB6.out.chg (hc.then hc5) (by simp); have q0 := q6'.cell 0; have qf := q6'.frozen 0)
        have hM5 : Marks Wb.heap.size (w5.setCell ⟨w.heap.size + 1, 0, none⟩ (.bool true)) Ds := (HMM.out.quiet hc5).chg (S := [w.heap.size + 1]) ((Chg.refl _ _).setCell (p := ⟨w.heap.size + 1, 0, none⟩) (.inl (by simp)) _) (Off.cons q6' (by decide) (Off.nil _))
        refine leaves_marks (B := Wb.heap.size) (b := w.heap.size + 1) (ty := 4) (cs := #[.bool true]) (w0 := w5.setCell ⟨w.heap.size + 1, 0, none⟩ (.bool true)) (by have := hc.size; have := hc5.size; simp [World.setCell]; omega) ?_ Ds _ hM5 (Below.refl _ _) (by simpa using q6'.set_ 0 (.bool true))
        intro W' hB' hH'
        have hcc : Chg [] w W' := ((HCB.out.then (hc.then hc5)).setCell (p := ⟨w.heap.size + 1, 0, none⟩) (.inr (by simp)) (.bool true)).then_below hB' HCB.out.size
        have h0 := hH'.cell 0
        simp at h0
        exact ⟨.bool true, by simp [results, Tryz.f4, go_sem, h0, Result.andThen], rfl, hcc⟩
end Go.Proofs
end
