import Derived.Test.YtpclhbfmocjgeaaN
import Derived.Deep.RegionLaw
import Derived.Test.YtpclhbfmocjgeaaM11
import Derived.Laws.MakeOwn
section
namespace Go.Proofs
open Go.RowKit
set_option linter.unusedVariables false

section
variable {P : Program} (w : World)
/-- append of nothing onto a row: the row. -/
theorem run_append_none (t ty e : TypeId) (i : TypeInfo) (size : Nat) (ht : P.underlying t = some (.slice e)) (hi : P.info? e = some i)
    (v : Value) (n : Nat) (xs : List Value) (hr : Row w e size v n xs) (A : Option Addr) (c : Nat) :
    (Builtin.append_ #[t, t] ty #[v, .slice A 0 c]).run P w = .ok v w := by
  rcases hr.2 with ⟨rfl, rfl⟩ | ⟨g, cap, cur, rfl, _, hnc, _⟩
  · cases A <;> simp [Builtin.append_, run_underlying ht, sizeOf, typeInfo, hi, Builtin.lenOf, Builtin.firstCells, loadCells, loadCellsFrom]
  · cases A <;> simp [Builtin.append_, run_underlying ht, sizeOf, typeInfo, hi, Builtin.lenOf, Builtin.firstCells, loadCells, loadCellsFrom, hnc, storeCells]
/-- append of a row onto an empty row: a copy. -/
theorem wpList_append_copy {ops : Array Oper} {rest : List Oper} {o : Oper} {a : Act} {Q : Exit → Act → World → Prop} (hgd : o.guard = none) (s x : Operand) (t : TypeId)
    (ho : o.op = .call { callee := .builtin .append, args := #[s, x], argTypes := #[t, t] })
    (e : TypeId) (i : TypeInfo) (z : Value) (size bytes : Nat) (ht : P.underlying t = some (.slice e)) (hi : P.info? e = some i) (hz : i.zero = some z)
    (hsize : i.size = size) (hby : i.bytes = bytes) (hzs : z.cells.size = size)
    (v : Value) (hs : a.eval s = v) (hr : Row w e size v 0 [])
    (V : Value) (n : Nat) (xs : List Value) (hx : a.eval x = V) (hV : Row w e size V n xs) (h1 : ∀ u ∈ xs, u.oneCell' = true)
    (h63 : n ≤ maxLen) (hbytes : n * bytes ≤ 140737488355328) (H : Nat) (hH : w.heap.size = H)
    (h : ∀ v' w', Row w' e size v' n xs → w.grownBy w' v.ownBlock → (∀ k ∈ foot v', v.ownBlock = some k ∨ k = H) → wpList P ops Q rest (a.put o.dst v') w') : wpList P ops Q (o :: rest) a w := by
  obtain ⟨A, c, rfl, hA⟩ := hV.val
  rcases Nat.eq_zero_or_pos n with h0 | h0
  · subst h0
    have hxs : xs = [] := List.eq_nil_of_length_eq_zero (by simpa using hV.1)
    subst hxs
    have hrun := run_append_none (P := P) w t o.type e i size ht hi v 0 [] hr A c
    refine wpList_plain hgd fun _ hK => ?_
    unfold Oper.wp execOp
    simp only [ho, resolve, invoke, builtin, Sem.run_bind, Sem.run_pure, Result.andThen_ok, List.map_toArray, List.map_cons, List.map_nil, hs, hx, hrun]
    exact hK _ _ (h v w hr ⟨rfl, rfl, rfl, Nat.le_refl _, fun _ _ _ => rfl⟩ (fun k hk => .inl (by simpa [foot] using hk)))
  · obtain ⟨g, cap, hv, _, _, hcell, _, _⟩ := hV.form h0
    simp only [Value.slice.injEq] at hv
    obtain ⟨rfl, _, _⟩ := hv
    have hadd : ∀ j, (⟨g, 0, none⟩ : Addr).add j = ⟨g, j, none⟩ := fun j => by unfold Addr.add; split <;> simp_all
    refine wpList_append_row w hgd s x t ho e i z size bytes ht hi hz hsize hby hzs v 0 [] hs hr ⟨g, 0, none⟩ n c xs hx hV.1 (fun j u hu => by rw [hadd]; exact hcell j u hu) h1 h0 (by omega) (by rw [Nat.zero_add]; exact hbytes) H hH ?_
    intro g' cap' w' h2 h3 h4 _
    simp only [Nat.zero_add, List.nil_append] at h2
    rw [Nat.zero_add]
    exact h _ _ h2 h3 (fun k hk => by simp [foot_some] at hk; subst hk; exact h4)
end
theorem Try.int_info3 : (Try.prog.info? 3).map (fun i => (i.zero, i.size, i.bytes)) = some (some (.int .i64 0), 1, 8) := by kernel_rfl
/-- A slice in new blocks, with the same cells. -/
def Cloned (e : TypeId) (size n : Nat) (xs : List Value) (w w' : World) (en : Ending) : Prop := ∃ v, en = .returned v ∧ Row w' e size v n xs ∧ (∀ k ∈ foot v, w.heap.size ≤ k) ∧ Chg [] w w'
theorem spotCells_one (l : List (Spot Dm)) : ∀ u ∈ spotCells l, u.oneCell' = true := by
  intro u hu
  unfold spotCells at hu
  rw [List.mem_flatMap] at hu
  obtain ⟨s, _, hs⟩ := hu
  simp [Spot.cells] at hs
  rcases hs with rfl | rfl | rfl | rfl | rfl | rfl | rfl | rfl | rfl | rfl | rfl | rfl | rfl <;> rfl
theorem numCells_one (l : List Nat) : ∀ u ∈ numCells l, u.oneCell' = true := by
  intro u hu
  unfold numCells at hu
  rw [List.mem_map] at hu
  obtain ⟨s, _, rfl⟩ := hu
  rfl
theorem eql_nil_97 (w : World) (a : Option Addr) (n c : Nat) : (binOp .eql 97 (.slice a n c) (.slice none 0 0)).run Try.prog w = .ok (.bool a.isNone) w := by
  simp only [binOp]
  simp [Op.equal, Op.maxDepth, Lib.run_equalIn_slice_nil w 9999 97 103 a n c 0 0 Try.underlying97]
theorem eql_nil_98 (w : World) (a : Option Addr) (n c : Nat) : (binOp .eql 98 (.slice a n c) (.slice none 0 0)).run Try.prog w = .ok (.bool a.isNone) w := by
  simp only [binOp]
  simp [Op.equal, Op.maxDepth, Lib.run_equalIn_slice_nil w 9999 98 3 a n c 0 0 Try.underlying98]
attribute [local go_sem] eql_nil_97 eql_nil_98
set_option maxRecDepth 100000 in
theorem clone_spots {w : World} {V : Value} {l : List (Spot Dm)} (hV : Row w 103 13 V l.length (spotCells l)) (hl : l.length ≤ 4096) :
    Calls Try.prog 75 #[V] w fun e w' => Cloned 103 13 l.length (spotCells l) w w' e := by
  obtain ⟨i0, hi0, hz0, hz1, hz2⟩ := info_parts Try.info_C
  have hone := spotCells_one l
  have hV0 := hV
  rcases hV.2 with ⟨rfl, h0⟩ | ⟨g, cap, cur, rfl, hg, hc, hm, hcs, ht⟩
  · have hnil : l = [] := List.eq_nil_of_length_eq_zero h0
    subst hnil
    clear hV hV0 hone
    go_enter Try.func75, Try.ntmps75
    go_wp2
    go_ret
    exact ⟨_, rfl, Row.nil _ _ _, by simp [foot_nil], Chg.refl _ _⟩
  · have HV := Lib.hid hV0
    clear hV hV0 ht hg hcs hm hc
    obtain ⟨n, hn⟩ : ∃ n, n = l.length := ⟨_, rfl⟩
    rw [← hn] at HV hl ⊢
    clear hn
    go_enter Try.func75, Try.ntmps75
    go_wp2_with (at_builtin; refine wpList_append_copy _ rfl _ _ 97 (by rfl) 103 i0 _ 13 104 Try.underlying97 hi0 hz0 hz1 hz2 rfl (.slice (some ⟨w.heap.size, 0, none⟩) 0 0) (by rfl) ⟨by simp, .inr ⟨w.heap.size, 0, #[], rfl, Blk.new w _ _, by omega, by unfold maxLen; omega, by simp, rfl⟩⟩ (.slice (some ⟨g, 0, none⟩) n cap) n (spotCells l) (by rfl) (HV.out.alloc _) hone (by unfold maxLen; omega) (by omega) (w.heap.size + 1) (by simp) ?_; intro v' w1 hr hg hf)
    go_ret
    refine ⟨_, rfl, hr, fun k hk => ?_, ((Chg.refl [] w).alloc _).grown hg (fun k hk => ?_)⟩
    · rcases hf k hk with h9 | h9
      · simp [Value.ownBlock] at h9; omega
      · omega
    · simp [Value.ownBlock] at hk; exact .inr (by omega)
set_option maxRecDepth 100000 in
theorem clone_nums {w : World} {V : Value} {l : List Nat} (hV : Row w 3 1 V l.length (numCells l)) (hl : l.length ≤ 4096) :
    Calls Try.prog 76 #[V] w fun e w' => Cloned 3 1 l.length (numCells l) w w' e := by
  obtain ⟨i0, hi0, hz0, hz1, hz2⟩ := info_parts Try.int_info3
  have hone := numCells_one l
  have hV0 := hV
  rcases hV.2 with ⟨rfl, h0⟩ | ⟨g, cap, cur, rfl, hg, hc, hm, hcs, ht⟩
  · have hnil : l = [] := List.eq_nil_of_length_eq_zero h0
    subst hnil
    clear hV hV0 hone
    go_enter Try.func76, Try.ntmps76
    go_wp2
    go_ret
    exact ⟨_, rfl, Row.nil _ _ _, by simp [foot_nil], Chg.refl _ _⟩
  · have HV := Lib.hid hV0
    clear hV hV0 ht hg hcs hm hc
    obtain ⟨n, hn⟩ : ∃ n, n = l.length := ⟨_, rfl⟩
    rw [← hn] at HV hl ⊢
    clear hn
    go_enter Try.func76, Try.ntmps76
    go_wp2_with (at_builtin; refine wpList_append_copy _ rfl _ _ 98 (by rfl) 3 i0 _ 1 8 Try.underlying98 hi0 hz0 hz1 hz2 rfl (.slice (some ⟨w.heap.size, 0, none⟩) 0 0) (by rfl) ⟨by simp, .inr ⟨w.heap.size, 0, #[], rfl, Blk.new w _ _, by omega, by unfold maxLen; omega, by simp, rfl⟩⟩ (.slice (some ⟨g, 0, none⟩) n cap) n (numCells l) (by rfl) (HV.out.alloc _) hone (by unfold maxLen; omega) (by omega) (w.heap.size + 1) (by simp) ?_; intro v' w1 hr hg hf)
    go_ret
    refine ⟨_, rfl, hr, fun k hk => ?_, ((Chg.refl [] w).alloc _).grown hg (fun k hk => ?_)⟩
    · rcases hf k hk with h9 | h9
      · simp [Value.ownBlock] at h9; omega
      · omega
    · simp [Value.ownBlock] at hk; exact .inr (by omega)
/-- A copy of the table, in new blocks. -/
def Copied (t : Tab Dm) (w w' : World) : Prop := ∃ S, TabAt w' w.heap.size S t ∧ (∀ k ∈ S, w.heap.size ≤ k) ∧ Chg [] w w'
theorem Copied.mk {t : Tab Dm} {w W : World} {v1 v2 : Value} (hB : Blk W w.heap.size 100 #[.int .i64 t.size, .int .u64 t.first, v1, v2, .int .i64 t.retired]) (h1 : Row W 103 13 v1 t.spots.length (spotCells t.spots)) (h2 : Row W 3 1 v2 t.freed.length (numCells t.freed))
    (f1 : ∀ k ∈ foot v1, w.heap.size ≤ k) (f2 : ∀ k ∈ foot v2, w.heap.size ≤ k) (hc : Chg [] w W) : Copied t w W :=
  ⟨_, ⟨v1, v2, hB, h1, h2, rfl⟩, fun k hk => by
    simp at hk
    rcases hk with rfl | hk | hk
    · exact Nat.le_refl _
    · exact f1 k hk
    · exact f2 k hk, hc⟩
set_option maxRecDepth 100000 in
set_option maxHeartbeats 3200000 in
theorem tcopy_any {w : World} {g : Nat} {S : List Nat} {t : Tab Dm} (h : TabAt w g S t) (hw : t.WF) :
    Calls Try.prog 47 #[.pointer (some ⟨g, 0, none⟩)] w fun e w' => e = .returned (.pointer (some ⟨w.heap.size, 0, none⟩)) ∧ Copied t w w' := by
  have h0 := h
  obtain ⟨VS, VF, hB, hS, hF, hSS⟩ := h
  obtain ⟨A, c, rfl, _⟩ := hS.val
  obtain ⟨A', c', rfl, _⟩ := hF.val
  obtain ⟨n1, hn1⟩ : ∃ n, n = t.spots.length := ⟨_, rfl⟩
  obtain ⟨n2, hn2⟩ : ∃ n, n = t.freed.length := ⟨_, rfl⟩
  have hl1 : t.spots.length ≤ 4096 := by have := hw.len; have := hw.s1; omega
  have hl2 : t.freed.length ≤ 4096 := by have := hw.freed_len; omega
  have lg := hB.lt
  have hne : g ≠ w.heap.size := by omega
  have HS : Hid (Row w 103 13 (.slice A n1 c) t.spots.length (spotCells t.spots)) := Lib.hid (by rw [hn1]; exact hS)
  have HF : Hid (Row w 3 1 (.slice A' n2 c') t.freed.length (numCells t.freed)) := Lib.hid (by rw [hn2]; exact hF)
  have HB := Lib.hid hB
  have b0 := hB.cell 0
  have b1 := hB.cell 1
  have b2 := hB.cell 2
  have b3 := hB.cell 3
  have b4 := hB.cell 4
  obtain ⟨Z, hZ⟩ : ∃ Z, Z = t.size := ⟨_, rfl⟩
  obtain ⟨F, hFi⟩ : ∃ F, F = t.first := ⟨_, rfl⟩
  obtain ⟨R, hR⟩ : ∃ R, R = t.retired := ⟨_, rfl⟩
  rw [← hZ] at b0
  rw [← hFi] at b1
  rw [← hR] at b4
  have HZ := Lib.hid hZ
  have HFi := Lib.hid hFi
  have HR := Lib.hid hR
  have HN1 := Lib.hid hn1
  have HN2 := Lib.hid hn2
  rw [← hn1] at b2
  rw [← hn2] at b3
  clear hB hS hF hSS hZ hFi hR hn1 hn2
  go_enter Try.func47, Try.ntmps47
  go_wp2_with (go_at_call 66; refine (none_C h0 hw).mono ?_; rintro e w' ⟨rfl, rfl⟩)
  have HCC := Lib.hid (((Chg.refl [] w).alloc (.cells #[.int .i64 Z, .int .u64 F, (.slice A n1 c), (.slice A' n2 c'), .int .i64 R] 100)).drew)
  have HBX := Lib.hid ((Blk.new w 100 #[.int .i64 Z, .int .u64 F, (.slice A n1 c), (.slice A' n2 c'), .int .i64 R]).drew)
  go_region_held3 (fun w' => w'.cell? ⟨g, 2, none⟩ = some (.slice A n1 c) ∧ w'.cell? ⟨g, 3, none⟩ = some (.slice A' n2 c'))
    (first | go_keep | (simp [*, World.cell?_setCell_far, Ne.symm hne]))
    (first
      | (go_at_call 75; refine (clone_spots (HS.out.chg HCC.out (fun _ _ h => by cases h)) hl1).mono ?_; rintro e w1 ⟨v1, rfl, hr1, hf1, hc1⟩; obtain ⟨A1, c1, rfl, _⟩ := hr1.val; have HBX := Lib.hid (HBX.out.chg hc1 (by simp)); have HR1 := Lib.hid hr1; have HF1 := Lib.hid hf1; have HC1 := Lib.hid hc1; have HCC := Lib.hid (HCC.out.then hc1); have k2 : w1.cell? ⟨g, 2, none⟩ = some (.slice A n1 c) := (HCC.out.cell (p := ⟨g, 2, none⟩) lg (by simp)).trans b2; have k3 : w1.cell? ⟨g, 3, none⟩ = some (.slice A' n2 c') := (HCC.out.cell (p := ⟨g, 3, none⟩) lg (by simp)).trans b3; clear hr1 hf1 hc1)
      | (go_at_call 76; refine (clone_nums (HF.out.chg HCC.out (fun _ _ h => by cases h)) hl2).mono ?_; rintro e w2 ⟨v2, rfl, hr2, hf2, hc2⟩; obtain ⟨A2, c2, rfl, _⟩ := hr2.val; have hbx := HBX.out.chg hc2 (by simp); have x2 := hbx.cell 2; have x3 := hbx.cell 3; have y2 := hbx.frozen 2; have y3 := hbx.frozen 3; have HBX := Lib.hid hbx; have HR2 := Lib.hid hr2; have HF2 := Lib.hid hf2; have HC2 := Lib.hid hc2; have HCC := Lib.hid (HCC.out.then hc2); have j2 : w2.cell? ⟨g, 2, none⟩ = some (.slice A n1 c) := (HCC.out.cell (p := ⟨g, 2, none⟩) lg (by simp)).trans b2; have j3 : w2.cell? ⟨g, 3, none⟩ = some (.slice A' n2 c') := (HCC.out.cell (p := ⟨g, 3, none⟩) lg (by simp)).trans b3; clear hr2 hf2 hc2 hbx))
  have z2 := HC2.out.size
  have z1 := HC1.out.size
  simp only [World.size_drew, World.size_alloc] at z1
  have m1 : w.heap.size ∉ foot (.slice A1 t.spots.length c1) := fun hm => by have := HF1.out _ hm; simp at this; omega
  have m2 : w.heap.size ∉ foot (.slice A2 t.freed.length c2) := fun hm => by have := HF2.out _ hm; omega
  have hB2 : Blk ((w2.setCell ⟨w.heap.size, 2, none⟩ (.slice A1 t.spots.length c1)).setCell ⟨w.heap.size, 3, none⟩ (.slice A2 t.freed.length c2)) w.heap.size 100 #[.int .i64 Z, .int .u64 F, .slice A1 t.spots.length c1, .slice A2 t.freed.length c2, .int .i64 R] := (HBX.out.set_ 2 _).set_ 3 _
  have hq1 := ((HR1.out.chg HC2.out (fun _ _ h => by cases h)).far (p := ⟨w.heap.size, 2, none⟩) m1 (.slice A1 t.spots.length c1)).far (p := ⟨w.heap.size, 3, none⟩) m1 (.slice A2 t.freed.length c2)
  have hq2 := (HR2.out.far (p := ⟨w.heap.size, 2, none⟩) m2 (.slice A1 t.spots.length c1)).far (p := ⟨w.heap.size, 3, none⟩) m2 (.slice A2 t.freed.length c2)
  rw [HZ.out, HFi.out, HR.out] at hB2
  have HM := Lib.hid (Copied.mk hB2 hq1 hq2 (fun k hk => by have := HF1.out k hk; simp at this; omega) (fun k hk => by have := HF2.out k hk; omega) ((HCC.out.setCell (p := ⟨w.heap.size, 2, none⟩) (.inr (Nat.le_refl _)) _).setCell (p := ⟨w.heap.size, 3, none⟩) (.inr (Nat.le_refl _)) _))
  clear z1 z2 m1 m2 hB2 hq1 hq2
  go_wp2
  go_ret
  exact ⟨rfl, HM.out⟩
end Go.Proofs
end
section
namespace Go.Proofs
open Go.RowKit Go.Shelf
set_option linter.unusedVariables false
set_option linter.unusedSimpArgs false
set_option maxRecDepth 100000 in
/-- Copy: another one, which has the same table. -/
theorem Copy_any {w : World} {c : Nat} {S : List Nat} {t : Tab Dm} (h : DomAt w c S t) :
    Calls Try.prog 16 #[ptr c] w fun e w' => ∃ c2 S2, e = .returned (ptr c2) ∧ DomAt w' c2 S2 t ∧ (∀ k ∈ c2 :: S2, w.heap.size ≤ k) ∧ Chg [] w w' := by
  obtain ⟨g, hB, hT, hW⟩ := h
  have c0 : w.cell? ⟨c, 0, none⟩ = some (ptr g) := hB.cell 0
  have HT := Lib.hid (tcopy_any hT hW)
  have HW := Lib.hid hW
  clear hB hT hW
  go_enter Try.func16, Try.ntmps16
  go_wp2_with (go_at_call 47; refine HT.out.mono ?_; rintro e w1 ⟨rfl, hcp⟩; have HC := Lib.hid hcp; clear hcp)
  go_ret
  obtain ⟨S, h1, h2, h3⟩ := HC.out
  have z := h3.size
  have hq := (Chg.refl [] w1).alloc (.cells #[ptr w.heap.size] 62)
  refine ⟨_, S, rfl, ⟨w.heap.size, Blk.new w1 62 _, h1.quiet hq, HW.out⟩, fun k hk => ?_, h3.then hq⟩
  rcases List.mem_cons.1 hk with rfl | hk
  · exact z
  · exact h2 k hk
/-- The cells of a row of all. -/
theorem plc_cells {w : World} {A : Option Addr} {n c1 : Nat} {l0 : List Plc} (h : Row w 47 13 (.slice A n c1) n (plcCells l0)) {k : Nat} (hk : k < n) {p : Plc} (hp : l0[k]? = some p) : ∃ g, A = some ⟨g, 0, none⟩ ∧ g < w.heap.size ∧ ∀ W', Chg [] w W' →
    W'.cell? ⟨g, k * 13, none⟩ = some (.int .i64 p.i) ∧ W'.cell? ⟨g, k * 13 + 1, none⟩ = some (.int .u64 p.q) ∧ W'.cell? ⟨g, k * 13 + 2, none⟩ = some (.int .i64 p.x.pi) ∧ W'.cell? ⟨g, k * 13 + 3, none⟩ = some (.int .u64 p.x.pg) ∧ W'.cell? ⟨g, k * 13 + 4, none⟩ = some (.int .i64 p.x.gs) ∧ W'.cell? ⟨g, k * 13 + 5, none⟩ = some (.int .u64 p.x.cpu) ∧ W'.cell? ⟨g, k * 13 + 6, none⟩ = some (.int .u64 p.x.per) ∧ W'.cell? ⟨g, k * 13 + 7, none⟩ = some (.int .i64 p.x.cgs) ∧ W'.cell? ⟨g, k * 13 + 8, none⟩ = some (.int .u64 p.x.car) ∧ W'.cell? ⟨g, k * 13 + 9, none⟩ = some (.int .i64 p.x.own) ∧ W'.cell? ⟨g, k * 13 + 10, none⟩ = some (.int .i64 p.x.live) ∧ W'.cell? ⟨g, k * 13 + 11, none⟩ = some (.int .u64 p.x.used) ∧ W'.cell? ⟨g, k * 13 + 12, none⟩ = some (.int .i64 p.x.ch) := by
  obtain ⟨g, d, hv, _, _, hcell, _, lg⟩ := h.form (by omega)
  simp only [Value.slice.injEq] at hv
  obtain ⟨rfl, _, _⟩ := hv
  obtain ⟨q0, q1, q2, q3, q4, q5, q6, q7, q8, q9, q10, q11, q12⟩ := plcCells_at hp
  refine ⟨g, rfl, lg, fun W' hc => ?_⟩
  have e := fun (j : Nat) (u : Value) (hj : (plcCells l0)[j]? = some u) => (hc.cell (p := ⟨g, j, none⟩) lg (by simp)).trans (hcell _ _ hj)
  exact ⟨e _ _ q0, e _ _ q1, e _ _ q2, e _ _ q3, e _ _ q4, e _ _ q5, e _ _ q6, e _ _ q7, e _ _ q8, e _ _ q9, e _ _ q10, e _ _ q11, e _ _ q12⟩
set_option maxRecDepth 100000 in
set_option maxHeartbeats 3200000 in
/-- slices.Equal of two equal rows. -/
theorem equal63_any {w : World} {A1 A2 : Option Addr} {n c1 c2 : Nat} {l0 : List Plc} (hn : n = l0.length) (hl : n ≤ 1000) (h1 : Row w 47 13 (.slice A1 n c1) n (plcCells l0)) (h2 : Row w 47 13 (.slice A2 n c2) n (plcCells l0)) :
    Calls Try.prog 63 #[.slice A1 n c1, .slice A2 n c2] w fun e w' => e = .returned (.bool true) ∧ Chg [] w w' := by
  have H1 := Lib.hid h1
  have H2 := Lib.hid h2
  have HN := Lib.hid hn
  have hb : ((n : Int) == (n : Int)) = true := beq_self_eq_true _
  clear h1 h2 hn
  go_enter Try.func63, Try.ntmps63
  go_wp2
  go_loopg [13] n (fun gh iv wr => ∃ j : Nat, j + gh = n ∧ iv = .int .i64 j ∧ Hid (Chg [] w wr))
  case atStart => exact ⟨0, by omega, rfl, Lib.hid (Chg.refl _ _)⟩
  case round =>
    obtain ⟨j, hj, rfl, HC⟩ := hrel
    by_cases hlt : j < n
    · have j0 : (0 : Int) ≤ (j : Int) := by omega
      have j1 : (j : Int) < (n : Int) := by omega
      obtain ⟨p, hp⟩ : ∃ p, l0[j]? = some p := ⟨_, List.getElem?_eq_getElem (by rw [← HN.out]; exact hlt)⟩
      obtain ⟨g1, rfl, lg1, hc1⟩ := plc_cells H1.out hlt hp
      obtain ⟨g2, rfl, lg2, hc2⟩ := plc_cells H2.out hlt hp
      obtain ⟨x0, x1, x2, x3, x4, x5, x6, x7, x8, x9, x10, x11, x12⟩ := hc1 _ HC.out
      obtain ⟨y0, y1, y2, y3, y4, y5, y6, y7, y8, y9, y10, y11, y12⟩ := hc2 _ HC.out
      have hneq := neq_plc p p
      simp only [Plc.val] at hneq
      try rw [decide_eq_true (rfl : p = p)] at hneq
      clear hc1 hc2 hp
      go_wp2
      go_quiet (fail)
      go_wp2
      go_roundg (n - j - 1)
      case measure => omega
      case rel => exact ⟨j + 1, by omega, by go_num, Lib.hid (HC.out.drewN _)⟩
    · obtain rfl : j = n := by omega
      go_wp2
      go_ret
      exact ⟨rfl, HC.out⟩
/-- Same, of two that tell the same. -/
theorem Same_any {w : World} {c c2 N : Nat} {S S2 : List Nat} {t t2 : Tab Dm} (h : DomAt w c S t) (h2 : DomAt w c2 S2 t2) (hs : t.size = (N : Nat)) (hs2 : t2.size = (N : Nat)) (hn : nowL t2 N = nowL t N) (hN : N ≤ 1000) :
    Calls Try.prog 24 #[ptr c, ptr c2] w fun e w' => e = .returned (.bool true) ∧ Chg [] w w' := by
  have HA := Lib.hid (fun W (hc : Chg [] w W) => allD_any (h.quiet hc) hs)
  have HA2 := Lib.hid (fun W (hc : Chg [] w W) => allD_any (h2.quiet hc) hs2)
  rw [hn] at HA2
  obtain ⟨g, hB, hT, hW⟩ := h
  obtain ⟨g2, hB2, hT2, hW2⟩ := h2
  have HP := Lib.hid (fun W (hc : Chg [] w W) => places_any (hB.chg hc (by simp)))
  have HP2 := Lib.hid (fun W (hc : Chg [] w W) => places_any (hB2.chg hc (by simp)))
  have HS := Lib.hid (fun W (hc : Chg [] w W) => size_C (hT.quiet hc))
  have HS2 := Lib.hid (fun W (hc : Chg [] w W) => size_C (hT2.quiet hc))
  rw [hs] at HS
  rw [hs2] at HS2
  have hl := nowL_len t N
  obtain ⟨l0, hl0⟩ : ∃ l0, l0 = nowL t N := ⟨_, rfl⟩
  rw [← hl0] at HA HA2 hl
  obtain ⟨n0, hn0⟩ : ∃ n0, n0 = l0.length := ⟨_, rfl⟩
  rw [← hn0] at HA HA2 hl
  have HE := Lib.hid (fun W A1 c1 A2 c2 (h1 : Row W 47 13 (.slice A1 n0 c1) n0 (plcCells l0)) (h2 : Row W 47 13 (.slice A2 n0 c2) n0 (plcCells l0)) => equal63_any hn0 (by omega) h1 h2)
  have hbN : ((N : Int) == (N : Int)) = true := beq_self_eq_true _
  clear hB hT hW hB2 hT2 hW2 hs hs2 hn hl0 hn0 hl
  go_enter Try.func24, Try.ntmps24
  go_wp2_with (first
    | (go_at_call 44; (with_reducible refine (HP.out _ (Chg.refl [] _)).mono ?_); rintro e w' ⟨rfl, rfl⟩)
    | (go_at_call 44; (with_reducible refine (HP2.out _ (Chg.refl [] _)).mono ?_); rintro e w' ⟨rfl, rfl⟩)
    | (go_at_call 62; (with_reducible refine (HS.out _ (Chg.refl [] _)).mono ?_); rintro e w' ⟨rfl, rfl⟩)
    | (go_at_call 62; (with_reducible refine (HS2.out _ (Chg.refl [] _)).mono ?_); rintro e w' ⟨rfl, rfl⟩)
    | (go_at_call 14; (with_reducible refine (HA.out _ (Chg.refl [] _)).mono ?_); rintro e w1 ⟨A1, c1, rfl, hr, _, hb⟩; have HR1 := Lib.hid hr; have HC1 := Lib.hid (Chg.of_below hb); clear hr hb)
    | (go_at_call 14; refine (HA2.out _ HC1.out).mono ?_; rintro e w2 ⟨A2, c2, rfl, hr, _, hb⟩; have HR2 := Lib.hid hr; have HR12 := Lib.hid (HR1.out.quiet (Chg.of_below hb)); have HC2 := Lib.hid (HC1.out.then (Chg.of_below hb)); clear hr hb)
    | (go_at_call 63; refine (HE.out _ _ _ _ _ HR12.out HR2.out).mono ?_; rintro e w3 ⟨rfl, hc3⟩))
  go_ret
  exact ⟨rfl, HC2.out.then hc3⟩
end Go.Proofs
end
section
namespace Go.Proofs
open Go.RowKit Go.Shelf
set_option linter.unusedVariables false
set_option linter.unusedSimpArgs false
/-! ### Notes of what is gone -/
def boolCells (B : List Bool) : List Value := B.map .bool
theorem boolCells_len (B : List Bool) : (boolCells B).length = B.length := by simp [boolCells]
theorem boolCells_at {B : List Bool} {k : Nat} {b : Bool} (h : B[k]? = some b) : (boolCells B)[k]? = some (.bool b) := by simp [boolCells, h]
theorem boolCells_snoc (B : List Bool) (b : Bool) : boolCells (B ++ [b]) = boolCells B ++ [.bool b] := by simp [boolCells]
theorem boolCells_set (B : List Bool) (k : Nat) (b : Bool) : (boolCells B).set k (.bool b) = boolCells (B.set k b) := by simp [boolCells, List.map_set]
theorem Try.info_B : (Try.prog.info? 4).map (fun i => (i.zero, i.size, i.bytes)) = some (some (.bool false), 1, 1) := by kernel_rfl
/-- What is noted as gone is gone. -/
def Gone (r : RTab) (rs : List (Int × Int)) (B : List Bool) : Prop := ∀ (k : Nat) (x : Int × Int), B[k]? = some true → rs[k]? = some x → r.is x.1 x.2 = false
theorem Gone.snoc {r : RTab} {rs : List (Int × Int)} {B : List Bool} (h : Gone r rs B) : Gone r rs (B ++ [false]) := fun k x hb hx => by
  rw [List.getElem?_append] at hb
  split at hb
  · exact h k x hb hx
  · rename_i hk
    rcases Nat.eq_zero_or_pos (k - B.length) with e | e
    · rw [e] at hb; simp at hb
    · rw [List.getElem?_eq_none (by simp; omega)] at hb; cases hb
theorem Gone.set {r : RTab} {rs : List (Int × Int)} {B : List Bool} (h : Gone r rs B) {k : Nat} {x : Int × Int} (hx : rs[k]? = some x) (v : Bool) (hv : v = true → r.is x.1 x.2 = false) : Gone r rs (B.set k v) := fun j y hb hy => by
  rw [List.getElem?_set] at hb
  split at hb
  · rename_i e; subst e
    split at hb
    · rw [hx] at hy; cases hy
      exact hv (by simpa using hb)
    · cases hb
  · exact h j y hb hy
theorem Gone.grows {r r' : RTab} {rs rs' : List (Int × Int)} {B : List Bool} (h : Gone r rs B) (hl : B.length ≤ rs.length) (hp : rs <+: rs') (hg : Grows r r')
    (ht : ∀ x ∈ rs, ∃ k : Nat, x.1 = (k : Nat) ∧ k < r.L.length ∧ 0 ≤ x.2 ∧ x.2 ≤ (r.pl k).gen ∧ (x.2 = (r.pl k).gen → (r.pl k).is = true)) : Gone r' rs' B := fun k x hb hx => by
  have hk := (List.getElem?_eq_some_iff.1 hb).1
  obtain ⟨tl, rfl⟩ := hp
  rw [List.getElem?_append, if_pos (by omega)] at hx
  exact stale_stays (ht x (List.mem_of_getElem? hx)) (h k x hb hx) hg
section
variable {w w1 : World} {G c h M : Nat} {S S2 : List Nat} {V : Value} {rs : List (Int × Int)} {t : Tab Dm} {r : RTab} {ch : Nat → List (Int × Int)}
/-- A block of notes is none of the game's. -/
theorem Game.not4 (g : Game w G c S h S2 V rs M t r ch) {b : Nat} {cs : Array Value} (hB : Blk w b 4 cs) : b ∉ gBlocks G V S S2 ∧ b ≠ c := by
  have hn := g.pair.dm.ne_ty hB (by decide) (by decide) (by decide) (by decide)
  have hn2 := g.pair.rf.not_box hB (by decide) (by decide) (by decide)
  refine ⟨fun hm => ?_, fun e => hn (by rw [e]; exact List.mem_cons_self)⟩
  rcases List.mem_cons.1 hm with e | hm
  · rw [e] at hB
    exact absurd rfl (Blk.ty g.blk hB (by decide))
  · rcases List.mem_append.1 hm with hm | hm
    · exact g.row.ty hB (by decide) hm
    · rcases List.mem_append.1 hm with hm | hm
      · exact hn (List.mem_cons_of_mem _ hm)
      · exact hn2 hm
/-- What is none of the game's turns: the game doesn't. -/
theorem Game.chg (g : Game w G c S h S2 V rs M t r ch) {X : List Nat} (hc : Chg X w w1) (hX : ∀ k ∈ X, k ∉ gBlocks G V S S2 ∧ k ≠ c) : Game w1 G c S h S2 V rs M t r ch :=
  { g with
    pair := ⟨g.pair.dm.chg hc (fun hm => (hX _ hm).2 rfl) (fun k hk hm => (hX _ hm).1 (List.mem_cons_of_mem _ (List.mem_append_right _ (List.mem_append_left _ hk)))), g.pair.rf.chg hc (fun k hk hm => (hX _ hm).1 (List.mem_cons_of_mem _ (List.mem_append_right _ (List.mem_append_right _ hk)))), g.pair.sim, g.pair.ap⟩
    blk := g.blk.chg hc (fun hm => (hX _ hm).1 List.mem_cons_self)
    row := g.row.chg hc (fun k hk hm => (hX _ hm).1 (List.mem_cons_of_mem _ (List.mem_append_left _ hk))) }
end
/-- A game, and the notes of what is gone. -/
structure StG (w0 w : World) (G c h : Nat) (S S2 : List Nat) (V : Value) (rs : List (Int × Int)) (M : Nat) (t : Tab Dm) (r : RTab) (ch : Nat → List (Int × Int)) (B : List Bool) (b4 n4 c4 : Nat) : Prop where
  g : Game w G c S h S2 V rs M t r ch
  fr : ∀ k ∈ gBlocks G V S S2, w0.heap.size ≤ k
  row : Row w 4 1 (.slice (some ⟨b4, 0, none⟩) n4 c4) n4 (boolCells B)
  len : B.length = n4
  lo : w0.heap.size ≤ b4
  gone : Gone r rs B
  chg : Chg [] w0 w
section
variable {w0 w w1 : World} {G c h M : Nat} {S S2 : List Nat} {V : Value} {rs : List (Int × Int)} {t : Tab Dm} {r : RTab} {ch : Nat → List (Int × Int)} {B : List Bool} {b4 n4 c4 : Nat}
theorem StG.blk (H : StG w0 w G c h S S2 V rs M t r ch B b4 n4 c4) : ∃ cs, Blk w b4 4 cs := by
  rcases H.row.2 with ⟨e, _⟩ | ⟨g, cap, cur, e, hb, _⟩
  · cases e
  · simp only [Value.slice.injEq, Option.some.injEq, Addr.mk.injEq] at e
    obtain ⟨⟨rfl, _⟩, _⟩ := e
    exact ⟨_, hb⟩
theorem StG.off (H : StG w0 w G c h S S2 V rs M t r ch B b4 n4 c4) : b4 ∉ gBlocks G V S S2 ∧ b4 ≠ c := by
  obtain ⟨cs, hb⟩ := H.blk
  exact H.g.not4 hb
theorem StG.quiet (H : StG w0 w G c h S S2 V rs M t r ch B b4 n4 c4) (hc : Chg [] w w1) : StG w0 w1 G c h S S2 V rs M t r ch B b4 n4 c4 :=
  { H with g := H.g.quiet hc, row := H.row.quiet hc, chg := H.chg.then hc }
/-- An act. -/
theorem StG.does (H : StG w0 w G c h S S2 V rs M t r ch B b4 n4 c4) (hM : M + 1 ≤ 1000) (hn : n4 ≤ rs.length) (a : ActC) (hF : a.Fits) :
    Calls Try.prog 13 #[ptr G, .agg a.cells.toArray] w fun e w' => e = .returned (.bool true) ∧ ∃ S' S2' V' rs' t' r' ch', StG w0 w' G c h S' S2' V' rs' (M + 1) t' r' ch' B b4 n4 c4 ∧ n4 ≤ rs'.length := by
  refine (do_any H.g hM a hF).mono ?_
  rintro e w' ⟨he, S', S2', V', rs', t', r', ch', k1, k2, k3, k4, k5⟩
  have z := H.chg.size
  refine ⟨he, S', S2', V', rs', t', r', ch', ⟨k1, fun k hk => (k2 k hk).elim (H.fr k) (fun h => by omega), H.row.chg k3 (fun k hk => ?_), H.len, H.lo, H.gone.grows (by rw [H.len]; exact hn) k5 k4 H.g.told, H.chg.trans k3 (fun k hk => .inr (H.fr k hk))⟩, Nat.le_trans hn (by have := k5.length_le; omega)⟩
  simp [foot_some] at hk; subst hk
  exact H.off.1
/-- A note more. -/
theorem StG.snoc (H : StG w0 w G c h S S2 V rs M t r ch B b4 n4 c4) {g' c' : Nat} (hr : Row w1 4 1 (.slice (some ⟨g', 0, none⟩) (n4 + 1) c') (n4 + 1) (boolCells B ++ [.bool false])) (hg : w.grownBy w1 (some b4)) (hb : some b4 = some g' ∨ w.heap.size ≤ g') :
    StG w0 w1 G c h S S2 V rs M t r ch (B ++ [false]) g' (n4 + 1) c' := by
  have hc : Chg [b4] w w1 := (Chg.refl _ _).grown hg (fun k hk => by cases hk; exact .inl (by simp))
  have z := H.chg.size
  refine ⟨H.g.chg hc (fun k hk => by simp at hk; subst hk; exact H.off), H.fr, by rw [boolCells_snoc]; exact hr, by rw [List.length_append, H.len]; rfl, ?_, H.gone.snoc, H.chg.trans hc (fun k hk => by simp at hk; subst hk; exact .inr H.lo)⟩
  rcases hb with e | e
  · cases e; exact H.lo
  · omega
/-- A note turns. -/
theorem StG.note (H : StG w0 w G c h S S2 V rs M t r ch B b4 n4 c4) {k : Nat} {x : Int × Int} (hk : k < n4) (hx : rs[k]? = some x) (v : Bool) (hv : v = true → r.is x.1 x.2 = false) :
    StG w0 (w.setCell ⟨b4, k, none⟩ (.bool v)) G c h S S2 V rs M t r ch (B.set k v) b4 n4 c4 := by
  have hc : Chg [b4] w (w.setCell ⟨b4, k, none⟩ (.bool v)) := (Chg.refl _ _).setCell (.inl (by simp)) _
  refine ⟨H.g.chg hc (fun k hk => by simp at hk; subst hk; exact H.off), H.fr, ?_, by rw [List.length_set]; exact H.len, H.lo, H.gone.set hx v hv, H.chg.trans hc (fun k hk => by simp at hk; subst hk; exact .inr H.lo)⟩
  have := H.row.set_ (j := k) (by omega) (.bool v)
  rwa [boolCells_set] at this
/-- A note. -/
theorem StG.noted (H : StG w0 w G c h S S2 V rs M t r ch B b4 n4 c4) {k : Nat} (hk : k < n4) : ∃ v, B[k]? = some v ∧ w.cell? ⟨b4, k, none⟩ = some (.bool v) ∧ w.frozen? ⟨b4, k, none⟩ = false ∧ b4 < w.heap.size := by
  obtain ⟨v, hv⟩ : ∃ v, B[k]? = some v := ⟨_, List.getElem?_eq_getElem (by rw [H.len]; exact hk)⟩
  obtain ⟨g, d, e, _, _, hcell, _, lg⟩ := H.row.form (by omega)
  simp only [Value.slice.injEq, Option.some.injEq, Addr.mk.injEq] at e
  obtain ⟨⟨rfl, _⟩, _⟩ := e
  obtain ⟨cs, hb⟩ := H.blk
  exact ⟨v, hv, hcell k _ (boolCells_at hv), hb.frozen k, lg⟩
end
/-- The start: no note, and room for eighty. -/
theorem StG.start {w0 w : World} {G c h N : Nat} (H : Btw w0 G c h N w) {cs : Array Value} (hz : cs.size = 80) : ∃ S S2 V rs t r ch, StG w0 (w.alloc (.cells cs 4)) G c h S S2 V rs (N + 1) t r ch [] w.heap.size 0 80 := by
  obtain ⟨S, S2, V, rs, t, r, ch, h1, h2, h3⟩ := id H
  have hc : Chg [] w (w.alloc (.cells cs 4)) := (Chg.refl _ _).alloc _
  refine ⟨S, S2, V, rs, t, r, ch, ⟨h1.quiet hc, h2, ⟨by simp [boolCells], .inr ⟨w.heap.size, 80, cs, rfl, Blk.new w 4 cs, by omega, by unfold maxLen; omega, by omega, by simp [boolCells]⟩⟩, rfl, h3.size, fun k x hb _ => by simp at hb, h3.then hc⟩⟩
end Go.Proofs
end
section
namespace Go.Proofs
open Go.RowKit Go.Shelf
set_option linter.unusedVariables false
set_option linter.unusedSimpArgs false
/-- What all calls answer of a ref that is gone: nothing turns. -/
structure StaleK (c : Nat) (S : List Nat) (t : Tab Dm) (i q : Int) : Prop where
  carve : ∀ W, DomAt W c S t → Calls Try.prog 17 #[ptr c, .agg #[.int .i64 i, .int .u64 q], .int .i64 0, .int .u64 0, .int .u64 1] W fun e w' => e = .returned (.tuple #[.agg #[.int .i64 0, .int .u64 0], .int .i64 11]) ∧ DomAt w' c S t ∧ Chg [] W w'
  merge : ∀ W, DomAt W c S t → Calls Try.prog 18 #[ptr c, .agg #[.int .i64 i, .int .u64 q]] W fun e w' => e = .returned (.int .i64 11) ∧ DomAt w' c S t ∧ Chg [] W w'
  join : ∀ W, DomAt W c S t → Calls Try.prog 19 #[ptr c, .agg #[.int .i64 i, .int .u64 q]] W fun e w' => e = .returned (.int .i64 11) ∧ DomAt w' c S t ∧ Chg S W w'
  leave : ∀ W, DomAt W c S t → Calls Try.prog 20 #[ptr c, .agg #[.int .i64 i, .int .u64 q]] W fun e w' => e = .returned (.int .i64 11) ∧ DomAt w' c S t ∧ Chg S W w'
  use : ∀ W, DomAt W c S t → Calls Try.prog 21 #[ptr c, .agg #[.int .i64 i, .int .u64 q], .int .u64 1] W fun e w' => e = .returned (.int .i64 11) ∧ DomAt w' c S t ∧ Chg S W w'
  clear : ∀ W, DomAt W c S t → Calls Try.prog 22 #[ptr c, .agg #[.int .i64 i, .int .u64 q]] W fun e w' => e = .returned (.int .i64 11) ∧ DomAt w' c S t ∧ Chg S W w'
  chain : ∀ W, DomAt W c S t → Calls Try.prog 23 #[ptr c, .agg #[.int .i64 i, .int .u64 q]] W fun e w' => ∃ A cc, e = .returned (.slice A 0 cc) ∧ DomAt w' c S t ∧ Chg [] W w'
section
variable {w : World} {G c h M : Nat} {S S2 : List Nat} {V : Value} {rs : List (Int × Int)} {t : Tab Dm} {r : RTab} {ch : Nat → List (Int × Int)}
theorem Game.bounds (g : Game w G c S h S2 V rs M t r ch) {x : Int × Int} (hx : x ∈ rs) : -9223372036854775808 ≤ x.1 ∧ x.1 ≤ 9223372036854775807 := by
  obtain ⟨kk, hj, hkl, _⟩ := g.told _ hx
  have hL := g.pair.sim.held.n1
  omega
theorem Game.staleK (g : Game w G c S h S2 V rs M t r ch) {i q : Int} (hx : (i, q) ∈ rs) (hq : r.is i q = false) : StaleK c S t i q := by
  obtain ⟨i0, i1⟩ := g.bounds hx
  simp only at i0 i1
  have Sm := g.pair.sim
  obtain ⟨e1, e2, e3, e4, e5⟩ := stale_errors Sm hq
  have hno : t.has i q = false := by rw [Sm.has]; exact hq
  obtain ⟨L, hU, hl, _, _⟩ := Sim.chain Sm.held i q
  obtain rfl := stale_chain Sm.held hq hU
  have hU' : Up t.par i q [] := by rw [Sm.par]; exact hU
  refine ⟨fun W hD => ?_, fun W hD => ?_, fun W hD => ?_, fun W hD => ?_, fun W hD => ?_, fun W hD => ?_, fun W hD => ?_⟩
  · refine (Carve_no hD Sm.oks i0 i1 (by omega) (by omega) (.inr (.inl e1))).mono ?_
    rintro e w' (⟨_, rfl, hd, hc⟩ | ⟨h0, _⟩)
    · rw [e1]; exact ⟨rfl, hd, hc⟩
    · rw [e1] at h0; cases h0
  · refine (Merge_no hD i0 i1 (by rw [e2]; decide)).mono ?_
    rintro e w' ⟨rfl, hc⟩
    rw [e2]; exact ⟨rfl, hD.quiet hc, hc⟩
  · refine (Join_any hD Sm.oks hU' i0 i1).mono ?_
    rintro e w' ⟨rfl, hd, hc⟩
    rw [e3] at hd ⊢
    exact ⟨rfl, by simpa using hd, hc⟩
  · refine (Leave_any hD Sm.oks hU' i0 i1).mono ?_
    rintro e w' ⟨rfl, hd, hc⟩
    rw [e4] at hd ⊢
    exact ⟨rfl, by simpa using hd, hc⟩
  · refine (Use_any hD Sm.oks i0 i1 1 (by omega) (by omega)).mono ?_
    rintro e w' ⟨rfl, hd, hc⟩
    rw [e5]
    rw [Tab.upd_no hno] at hd
    exact ⟨rfl, hd, hc⟩
  · refine (Clear_any hD i0 i1).mono ?_
    rintro e w' ⟨rfl, hd, hc⟩
    rw [e5]
    rw [Tab.upd_no hno] at hd
    exact ⟨rfl, hd, hc⟩
  · refine (Chain_any hD hU' Sm.oks.fit (by simp) i0 i1).mono ?_
    rintro e w' ⟨V1, rfl, hr, hf, hc⟩
    obtain ⟨A, cc, rfl, _⟩ := hr.val
    exact ⟨A, cc, rfl, hD.quiet hc, hc⟩
/-- Get, of a ref of the game. -/
theorem Game.get (g : Game w G c S h S2 V rs M t r ch) {i q : Int} (hx : (i, q) ∈ rs) : ∃ y E, ((E = 0 ∧ r.is i q = true) ∨ (E = 11 ∧ r.is i q = false)) ∧ ∀ W, Chg [] w W → Calls Try.prog 15 #[ptr c, .agg #[.int .i64 i, .int .u64 q]] W fun e w' => e = .returned (.tuple #[Dm.val y, .int .i64 E]) ∧ Chg [] W w' := by
  obtain ⟨i0, i1⟩ := g.bounds hx
  simp only at i0 i1
  have Sm := g.pair.sim
  refine ⟨t.at_ i q, staleE t i q, ?_, fun W hc => Get_any (g.pair.dm.quiet hc) i q i0 i1⟩
  cases hq : r.is i q with
  | true => exact .inl ⟨(live_answers Sm hq).1, rfl⟩
  | false => exact .inr ⟨(stale_answers Sm hq).1, rfl⟩
end
section
variable {w0 w : World} {G c h M : Nat} {S S2 : List Nat} {V : Value} {rs : List (Int × Int)} {t : Tab Dm} {r : RTab} {ch : Nat → List (Int × Int)} {B : List Bool} {b4 n4 c4 : Nat}
theorem StG.open_ (H : StG w0 w G c h S S2 V rs M t r ch B b4 n4 c4) : ∃ bV cV, V = .slice (some ⟨bV, 0, none⟩) rs.length cV := by
  have hone := H.g.one
  rcases H.g.row.2 with ⟨_, e0⟩ | ⟨b, cp, cur, e, _⟩
  · omega
  · exact ⟨b, cp, e⟩
theorem StG.cells {bV cV n : Nat} (H : StG w0 w G c h S S2 (.slice (some ⟨bV, 0, none⟩) n cV) rs M t r ch B b4 n4 c4) (hn : n = rs.length) :
    w.cell? ⟨G, 0, none⟩ = some (ptr c) ∧ w.cell? ⟨G, 2, none⟩ = some (.slice (some ⟨bV, 0, none⟩) n cV) ∧ G < w.heap.size ∧ bV < w.heap.size ∧
    ∀ (k : Nat) (x : Int × Int), rs[k]? = some x → w.cell? ⟨bV, k * 2, none⟩ = some (.int .i64 x.1) ∧ w.cell? ⟨bV, k * 2 + 1, none⟩ = some (.int .u64 x.2) := by
  subst hn
  refine ⟨H.g.blk.cell 0, H.g.blk.cell 2, H.g.blk.lt, H.g.row.lt bV (by simp [foot_some]), fun k x hx => ?_⟩
  have hk := (List.getElem?_eq_some_iff.1 hx).1
  obtain ⟨g, d, e, _, _, hcell, _, lg⟩ := H.g.row.form (by omega)
  simp only [Value.slice.injEq, Option.some.injEq, Addr.mk.injEq] at e
  obtain ⟨⟨rfl, _⟩, _⟩ := e
  obtain ⟨f0, f1⟩ := refCells_at hx
  exact ⟨hcell _ _ f0, hcell _ _ f1⟩
end
end Go.Proofs
end
