import Derived.Test.YtocdkomjdcccoaaReH
import Derived.Laws.IdiomCopy
namespace Go.Proofs
open Go.RowKit
set_option linter.unusedVariables false

theorem chg_setCells (b : Nat) : ∀ (vs : List Value) (o : Nat) (w : World), Chg [b] w (w.setCells b o vs)
  | [], o, w => Chg.refl _ _
  | v :: r, o, w => ((Chg.refl [b] w).setCell (p := ⟨b, o, none⟩) (.inl (by simp)) v).trans (chg_setCells b r (o + 1) _) (fun k hk => .inl hk)
theorem blk_setCells (b : Nat) (t : TypeId) : ∀ (vs : List Value) (o : Nat) (w : World) (cs : Array Value), Blk w b t cs → ∃ cs', Blk (w.setCells b o vs) b t cs' ∧ cs'.size = cs.size ∧ ∀ j, j < o → cs'[j]? = cs[j]?
  | [], o, w, cs, h => ⟨cs, h, rfl, fun _ _ => rfl⟩
  | v :: r, o, w, cs, h => by
    obtain ⟨cs', h1, h2, h3⟩ := blk_setCells b t r (o + 1) _ _ (h.set_ o v)
    refine ⟨cs', h1, by rw [h2]; simp, fun j hj => ?_⟩
    rw [h3 j (by omega), Array.getElem?_setIfInBounds_ne (by omega)]
theorem rf_zeros (n : Nat) : (Builtin.zeroCells (Value.agg #[.int .u64 0, .int .u64 0]).cells n).toList.length = n * 2 ∧ ∀ v ∈ (Builtin.zeroCells (Value.agg #[.int .u64 0, .int .u64 0]).cells n).toList, v.oneCell' = true := by
  have hc : (Value.agg #[.int .u64 0, .int .u64 0]).cells = #[.int .u64 0, .int .u64 0] := rfl
  rw [hc]
  refine ⟨by rw [Array.length_toList, size_zeroCells]; rfl, fun v hv => ?_⟩
  simp [Builtin.zeroCells] at hv
  obtain ⟨i, hi, rfl⟩ := hv
  rcases Nat.mod_two_eq_zero_or_one i with e | e <;> simp [e] <;> rfl
/-- clear of the rest of a row of refills. -/
theorem run_clear_rf (w : World) (ty : TypeId) (b o n c : Nat) {cs : Array Value} (hB : Blk w b 47 cs) (hn : o + n * 2 ≤ cs.size) :
    (Builtin.clear_ #[40] ty #[.slice (some ⟨b, o, none⟩) n c]).run Try.prog w = .ok (.tuple #[]) (w.setCells b o (if n = 0 then [] else (Builtin.zeroCells (Value.agg #[.int .u64 0, .int .u64 0]).cells n).toList)) := by
  cases n with
  | zero => simp [Builtin.clear_, run_underlying Try.underlying40, World.setCells]
  | succ m =>
    obtain ⟨z1, z2⟩ := rf_zeros (m + 1)
    have hst := run_storeCells_cells (P := Try.prog) b o (Builtin.zeroCells (Value.agg #[.int .u64 0, .int .u64 0]).cells (m + 1)).toList 0 w
      (fun j hj => by rw [hB.cell]; rw [z1] at hj; simp; omega) (fun j hj => hB.frozen _) z2
    rw [Nat.add_zero] at hst
    rw [if_neg (by omega)]
    have hz : (zeroValue 47).run Try.prog w = .ok (.agg #[.int .u64 0, .int .u64 0]) w := Try.zeroValue47 w
    simp [Builtin.clear_, run_underlying Try.underlying40, hz, hst]
/-- In the midst of a deletion: i are kept of the first j. -/
structure DMid (w : World) (v : Value) (l : List Rf) (now : Int) (i j : Nat) (wx : World) : Prop where
  row : ∃ cur : List Rf, cur.length = l.length ∧ Ro wx v cur ∧ cur.take i = thereL (l.take j) now ∧ cur.drop j = l.drop j
  kept : i = (thereL (l.take j) now).length
  lt : i < j
  chg : Chg (foot v) w wx
theorem dueN_split {l : List Rf} {now : Int} (h : dueN l now < l.length) : (∀ x ∈ l.take (dueN l now), x.2 ≤ now) ∧ ∃ x, l[dueN l now]? = some x ∧ now < x.2 := by
  have h' : l.findIdx (fun (x : Rf) => decide (now < x.2)) < l.length := h
  have h2 := List.findIdx_getElem (w := h')
  refine ⟨fun x hx => ?_, l[dueN l now], List.getElem?_eq_getElem h, by unfold dueN; simpa using h2⟩
  obtain ⟨j, hj, hje⟩ := List.mem_iff_getElem.1 hx
  rw [List.length_take] at hj
  rw [List.getElem_take] at hje
  have h3 := List.not_of_lt_findIdx (xs := l) (p := fun (x : Rf) => decide (now < x.2)) (i := j) (by unfold dueN at hj; omega)
  rw [hje] at h3
  simpa using h3
theorem dueN_full {l : List Rf} {now : Int} (h : ¬ dueN l now < l.length) : thereL l now = l := by
  have h1 : dueN l now = l.length := by have := dueN_le l now; omega
  unfold dueN at h1
  rw [List.findIdx_eq_length] at h1
  unfold thereL
  rw [List.filter_eq_self]
  intro x hx
  have := h1 x hx
  simpa using this
theorem DMid.start {w w1 : World} {v : Value} {l : List Rf} {now : Int} (h : Ro w v l) (hc : Chg [] w w1) (hd : dueN l now < l.length) : DMid w v l now (dueN l now) (dueN l now + 1) w1 := by
  obtain ⟨h1, x, hx, h2⟩ := dueN_split hd
  have e : thereL (l.take (dueN l now + 1)) now = l.take (dueN l now) := by
    rw [thereL_snoc hx, if_neg (by omega), List.append_nil]
    unfold thereL
    rw [List.filter_eq_self]
    intro y hy
    simpa using h1 y hy
  exact ⟨⟨l, rfl, h.quiet hc, e.symm, rfl⟩, by rw [e, List.length_take]; omega, by omega, hc.any⟩
theorem DMid.skip {w wx w1 : World} {v : Value} {l : List Rf} {now : Int} {i j : Nat} {x : Rf} (h : DMid w v l now i j wx) (hc : Chg [] wx w1) (hx : l[j]? = some x) (hn : now < x.2) : DMid w v l now i (j + 1) w1 := by
  obtain ⟨⟨cur, c1, c2, c3, c4⟩, k1, k2, k3⟩ := h
  have e := thereL_snoc (now := now) hx
  rw [if_neg (by omega), List.append_nil] at e
  exact ⟨⟨cur, c1, c2.quiet hc, by rw [e]; exact c3, by rw [← List.drop_drop, ← List.drop_drop, c4]⟩, by rw [e]; exact k1, by omega, k3.then hc⟩
theorem DMid.at {w wx : World} {g n cap : Nat} {l : List Rf} {now : Int} {i j : Nat} {x : Rf} (h : DMid w (.slice (some ⟨g, 0, none⟩) n cap) l now i j wx) (hx : l[j]? = some x) : g < wx.heap.size ∧
    wx.cell? ⟨g, j * 2, none⟩ = some (.int .u64 x.1) ∧ wx.cell? ⟨g, j * 2 + 1, none⟩ = some (.int .u64 x.2) ∧ (∃ a b, wx.cell? ⟨g, i * 2, none⟩ = some (.int .u64 a) ∧ wx.cell? ⟨g, i * 2 + 1, none⟩ = some (.int .u64 b)) ∧ ∀ k, wx.frozen? ⟨g, k, none⟩ = false := by
  obtain ⟨⟨cur, c1, c2, c3, c4⟩, k1, k2, k3⟩ := h
  have hj := (List.getElem?_eq_some_iff.1 hx).1
  obtain ⟨g', cap', hv, _, hc, hcell, hfz, hg⟩ := Row.form c2 (by omega)
  simp only [Value.slice.injEq, Option.some.injEq, Addr.mk.injEq] at hv
  obtain ⟨⟨rfl, _⟩, _, rfl⟩ := hv
  have hcx : cur[j]? = some x := by
    have := congrArg (fun l => l[0]?) c4
    simpa [hx] using this
  obtain ⟨q0, q1⟩ := rfs_at hcx
  obtain ⟨r0, r1⟩ := rfs_at (l := cur) (k := i) (List.getElem?_eq_getElem (by omega))
  exact ⟨hg, hcell _ _ q0, hcell _ _ q1, ⟨_, _, hcell _ _ r0, hcell _ _ r1⟩, hfz⟩
theorem DMid.keep {w wx w1 : World} {g n cap : Nat} {l : List Rf} {now : Int} {i j : Nat} {x : Rf} (h : DMid w (.slice (some ⟨g, 0, none⟩) n cap) l now i j wx) (hc : Chg [] wx w1) (hx : l[j]? = some x) (hn : x.2 ≤ now) :
    DMid w (.slice (some ⟨g, 0, none⟩) n cap) l now (i + 1) (j + 1) ((w1.setCell ⟨g, i * 2, none⟩ (.int .u64 x.1)).setCell ⟨g, i * 2 + 1, none⟩ (.int .u64 x.2)) := by
  obtain ⟨⟨cur, c1, c2, c3, c4⟩, k1, k2, k3⟩ := h
  have hj := (List.getElem?_eq_some_iff.1 hx).1
  have e := thereL_snoc (now := now) hx
  rw [if_pos hn] at e
  have h2 := c2.quiet hc
  have hnn : n = cur.length := by
    obtain ⟨A', c', hv, _⟩ := (Ro.rd h2).open_
    injection hv
  subst hnn
  have h3 := (Row.set_ h2 (j := i * 2) (by omega) (.int .u64 x.1)).set_ (j := i * 2 + 1) (by omega) (.int .u64 x.2)
  rw [← rfs_set cur i x (by omega)] at h3
  refine ⟨⟨cur.set i x, by rw [List.length_set]; exact c1, by unfold Ro; rw [List.length_set]; exact h3, ?_, ?_⟩, by rw [e, List.length_append]; simp; exact k1, by omega, ?_⟩
  · rw [e, List.take_add_one, List.getElem?_set_self (by omega), List.take_set_of_le (Nat.le_refl _), c3]; rfl
  · rw [List.drop_set_of_lt (by omega), ← List.drop_drop, ← List.drop_drop, c4]
  · exact ((k3.then hc).setCell (p := ⟨g, i * 2, none⟩) (.inl (by simp [foot_some])) _).setCell (p := ⟨g, i * 2 + 1, none⟩) (.inl (by simp [foot_some])) _
theorem idxI_no {l : List Rf} {now : Int} (h : ¬ dueN l now < l.length) : idxI l now = -1 := by unfold idxI; rw [if_neg h]
theorem idxI_yes {l : List Rf} {now : Int} (h : dueN l now < l.length) : idxI l now = (dueN l now : Nat) := by unfold idxI; rw [if_pos h]
/-- Behind the deletion. -/
theorem DMid.done {w wx : World} {g n cap : Nat} {l : List Rf} {now : Int} {i j : Nat} (h : DMid w (.slice (some ⟨g, 0, none⟩) n cap) l now i j wx) (hj : j = l.length) (hi : i < n) (vs : List Value) :
    Rd (wx.setCells g (i * 2) vs) (.slice (some ⟨g, 0, none⟩) i cap) (thereL l now) ∧ Chg [g] w (wx.setCells g (i * 2) vs) := by
  obtain ⟨⟨cur, c1, c2, c3, c4⟩, k1, k2, k3⟩ := h
  subst hj
  rw [List.take_length] at c3 k1
  have hnn : n = cur.length := by
    obtain ⟨A', c', hv, _⟩ := (Ro.rd c2).open_
    injection hv
  subst hnn
  refine ⟨?_, k3.trans (chg_setCells g vs (i * 2) wx) (fun k hk => .inl (by simpa [foot_some] using hk))⟩
  rcases c2.2 with ⟨h0, _⟩ | ⟨g', cap', cs, hv, hg, hc, hm, hs, ht⟩
  · cases h0
  · simp only [Value.slice.injEq, Option.some.injEq, Addr.mk.injEq] at hv
    obtain ⟨⟨rfl, _⟩, _, rfl⟩ := hv
    obtain ⟨cs', q1, q2, q3⟩ := blk_setCells g 47 vs (i * 2) wx cs hg
    unfold Rd
    rw [← k1]
    refine Rs.of_row ⟨by rw [rfs_len, ← k1], .inr ⟨g, cap, cs', rfl, q1, by omega, hm, by omega, ?_⟩⟩
    rw [← c3, ← rfs_take, ← ht, List.take_take, Nat.min_eq_left (by omega)]
    refine List.ext_getElem? fun k => ?_
    rw [List.getElem?_take, List.getElem?_take]
    split
    · rename_i hk
      simpa using q3 k hk
    · rfl
set_option maxHeartbeats 6400000 in
set_option maxRecDepth 100000 in
/-- slices.DeleteFunc of those whose time has not come. -/
theorem delete_above {w : World} {v : Value} {l : List Rf} {bN : Nat} {now : Int} (h : Ro w v l) (hB : Blk w bN 22 #[.int .u64 now]) (hn : l.length ≤ 100000) :
    Calls Try.prog 39 #[v, .func (.func 51) #[] #[.pointer (some ⟨bN, 0, none⟩)]] w fun e w' => ∃ v', e = .returned v' ∧ Rd w' v' (thereL l now) ∧ Chg (foot v) w w' := by
  have hix := index_above h.rd hB hn
  have hbv : bN ∉ foot v := Row.ty h hB (by decide)
  by_cases hd : dueN l now < l.length
  · rw [idxI_yes hd] at hix
    have hl0 : 0 < l.length := by omega
    obtain ⟨g, cap, rfl, _, hcap, _⟩ := Row.form h hl0
    clear hl0
    have hstart := fun w1 (hc : Chg [] w w1) => DMid.start h hc hd
    obtain ⟨n, e1⟩ : ∃ n, n = l.length := ⟨_, rfl⟩
    obtain ⟨k0, e2⟩ : ∃ k0, k0 = dueN l now := ⟨_, rfl⟩
    rw [← e2] at hix hd hstart
    rw [← e1] at hd hix hstart hn hcap hbv ⊢
    have HN := Lib.hid e1
    have HS := Lib.hid hstart
    have HB := Lib.hid hB
    have HV := Lib.hid hbv
    have hne : ((k0 : Int) == -1) = false := beq_eq_false_iff_ne.2 (by omega)
    clear h hB e1 e2 hstart hbv
    go_enter Try.func39, Try.ntmps39
    go_wp2_with (go_at_call 50; refine hix.mono ?_; rintro e w1 ⟨rfl, hc1⟩; have H1 := Lib.hid (HS.out _ hc1); clear hc1)
    go_loopg [5, 6] n (fun gh s5 s6 wx => ∃ i j : Nat, (j ≤ n ∧ n - j ≤ gh) ∧ s5 = .int .i64 i ∧ s6 = .int .i64 j ∧ Hid (DMid w (.slice (some ⟨g, 0, none⟩) n cap) l now i j wx))
    case atStart => exact ⟨k0, k0 + 1, by omega, rfl, by go_num, Lib.hid H1.out⟩
    case round =>
      obtain ⟨i, j, hj, rfl, rfl, HR⟩ := hrel
      by_cases hlt : j < n
      · have k0 : (0 : Int) ≤ (j : Int) := by omega
        have k1 : (j : Int) < (n : Int) := by omega
        have hij := HR.out.lt
        have k2 : (0 : Int) ≤ (i : Int) := by omega
        have k3 : (i : Int) < (n : Int) := by omega
        obtain ⟨x, hx⟩ : ∃ x, l[j]? = some x := ⟨_, List.getElem?_eq_getElem (by rw [← HN.out]; exact hlt)⟩
        obtain ⟨lg, x0, x1, ⟨ya, yb, y0, y1⟩, hfz⟩ := HR.out.at hx
        have HX := Lib.hid hx
        obtain ⟨xa, xt⟩ := x
        simp only at x0 x1
        have hgn : g ∈ foot (.slice (some ⟨g, 0, none⟩) n cap) := by simp [foot_some]
        have hstep := fun (o : Obj) => above_step ((HB.out.chg HR.out.chg HV.out).alloc o) xa xt
        have f0 := hfz (i * 2)
        have f1 := hfz (i * 2 + 1)
        by_cases hbd : now < xt
        · rw [show decide (now < xt) = true by simpa using hbd] at hstep
          have HL := Lib.hid hbd
          clear hx hfz hbd f0 f1 y0 y1 hgn
          go_wp2_with (go_at_call 51; refine (hstep _).mono ?_; rintro e w1 ⟨rfl, q3⟩; have H3 := Lib.hid q3; clear q3)
          go_roundg (n - j - 1)
          case measure => omega
          case rel => exact ⟨i, j + 1, by omega, rfl, by go_num, Lib.hid (HR.out.skip (((Chg.refl [] _).alloc _).then H3.out) HX.out HL.out)⟩
        · rw [show decide (now < xt) = false by simpa using hbd] at hstep
          have HL := Lib.hid (show xt ≤ now by omega)
          have HFC := Lib.hid (fun (o : Obj) (W : World) (hW : Chg [] (wr.alloc o) W) => (⟨(hW.cell (p := ⟨wr.heap.size, 0, none⟩) (by simp) (by simp)), (hW.cell (p := ⟨wr.heap.size, 1, none⟩) (by simp) (by simp)),
            (hW.cell (p := ⟨g, i * 2, none⟩) (by simp; omega) (by simp)), (hW.cell (p := ⟨g, i * 2 + 1, none⟩) (by simp; omega) (by simp)), (hW.frozen (p := ⟨g, i * 2, none⟩) (by simp; omega) (by simp)), (hW.frozen (p := ⟨g, i * 2 + 1, none⟩) (by simp; omega) (by simp))⟩ : _ ∧ _ ∧ _ ∧ _ ∧ _ ∧ _))
          clear hx hfz hbd hgn
          go_wp2_with (go_at_call 51; refine (hstep _).mono ?_; rintro e w1 ⟨rfl, q3⟩; obtain ⟨t0, t1, t2, t3, t4, t5⟩ := HFC.out _ _ q3; have H3 := Lib.hid q3; clear q3)
          go_roundg (n - j - 1)
          case measure => omega
          case rel => exact ⟨i + 1, j + 1, by omega, by go_num, by go_num, Lib.hid (HR.out.keep (((Chg.refl [] _).alloc _).then H3.out) HX.out HL.out)⟩
      · obtain rfl : j = n := by omega
        have hij := HR.out.lt
        have k2 : (0 : Int) ≤ (i : Int) := by omega
        have k3 : (i : Int) ≤ (j : Int) := by omega
        have k4 : i < cap := by omega
        have hend := Lib.hid (fun vs => HR.out.done HN.out hij vs)
        have HCL := Lib.hid (fun ty => (by
          obtain ⟨⟨cur, c1, c2, c3, c4⟩, _⟩ := HR.out
          rcases c2.2 with ⟨h0, _⟩ | ⟨g', cap', cs, hv, hg, hc, hm, hs, ht⟩
          · cases h0
          · simp only [Value.slice.injEq, Option.some.injEq, Addr.mk.injEq] at hv
            obtain ⟨⟨rfl, _⟩, e9, rfl⟩ := hv
            exact run_clear_rf wr ty g (i * 2) (j - i) (cap - i) hg (by omega) :
          (Builtin.clear_ #[40] ty #[.slice (some ⟨g, i * 2, none⟩) (j - i) (cap - i)]).run Try.prog wr = .ok (.tuple #[]) (wr.setCells g (i * 2) (if j - i = 0 then [] else (Builtin.zeroCells (Value.agg #[.int .u64 0, .int .u64 0]).cells (j - i)).toList))))
        obtain ⟨L, hL⟩ : ∃ L, L = (if j - i = 0 then [] else (Builtin.zeroCells (Value.agg #[.int .u64 0, .int .u64 0]).cells (j - i)).toList) := ⟨_, rfl⟩
        have hcl := HCL.out
        rw [← hL] at hcl
        have HEE := Lib.hid (hend.out L)
        clear hL HCL hend
        go_wp2
        go_ret
        exact ⟨_, rfl, HEE.out.1, by simpa [foot_some] using HEE.out.2⟩
  · rw [idxI_no hd] at hix
    have HE := Lib.hid (dueN_full hd)
    have HH := Lib.hid h
    obtain ⟨A, c, rfl, _⟩ := h.rd.open_
    obtain ⟨n, e1⟩ : ∃ n, n = l.length := ⟨_, rfl⟩
    rw [← e1] at hix HH ⊢
    clear h hd e1 hbv hn
    go_enter Try.func39, Try.ntmps39
    go_wp2_with (go_at_call 50; refine hix.mono ?_; rintro e w1 ⟨rfl, hc1⟩; have H1 := Lib.hid hc1; clear hc1)
    go_ret
    exact ⟨_, rfl, by rw [HE.out]; exact (HH.out.quiet H1.out).rd, H1.out.any⟩
end Go.Proofs
