import Derived.Test.YtelkndhifkmpiaaHeQ
namespace Go.Proofs
open Go.RowKit
set_option linter.unusedVariables false

/-- slices.SortedFunc of a slice's values. -/
theorem sorted_any (b : Nat) (V : Value) (ts K : List Tm) (w : World) (hlen : ts.length ≤ 100000) (hb : b < w.heap.size) (hV : w.cell? ⟨b, 0, none⟩ = some V) (hT : Rs w 61 3 V ts.length (tms ts)) (hp : ts.Perm K) (hK : K.Pairwise Tm.lt) :
    Calls Try.prog 27 #[.func (.func 39) #[] #[.pointer (some ⟨b, 0, none⟩)], .func (.func 29) #[] #[]] w fun e w' => ∃ v, e = .returned v ∧ Fresh w w' v K := by
  have HC := collect_any b V ts w hlen hb hV hT
  have HS := Lib.hid (fun w1 v (h : Fresh w w1 v ts) => sort_any h.1 hlen)
  have HE := Lib.hid (fun w1 w2 v ts' (h : Fresh w w1 v ts) (h1 : ts'.Perm ts) (h2 : ts'.Pairwise (fun x y => ¬ Tm.lt y x)) (h3 : Row w2 61 3 v ts'.length (tms ts')) (h4 : Chg (foot v) w1 w2) => (⟨by
    rw [sorted_one (h1.trans hp) h2 hK] at h3; exact h3, h.2.1, h.2.2.trans h4 (fun k hk => .inr (h.2.1 k hk))⟩ : Fresh w w2 v K))
  clear hV hT hp hK
  go_enter Try.func27, Try.ntmps27
  go_wp2_with (first
    | (go_at_call 37; refine HC.mono ?_; rintro e w1 ⟨v, rfl, hf⟩; obtain ⟨A, c, rfl, _⟩ := hf.1.val; have HF := Lib.hid hf; have hs := HS.out _ _ hf; clear hf)
    | (go_at_call 38; refine hs.mono ?_; rintro e w2 ⟨rfl, ts', h1, h2, h3, h4⟩; have HR := Lib.hid (HE.out _ _ _ ts' HF.out h1 h2 h3 h4); clear h1 h2 h3 h4 hs))
  go_ret
  exact ⟨_, rfl, HR.out⟩
def pr (x : Tm) : Int × Int := (x.at_, x.id)
/-- What a call makes: a row of what is told of timers, of its own. -/
def FreshN (w w' : World) (v : Value) (l : List (Int × Int)) : Prop := Row w' 39 2 v l.length (nms l) ∧ (∀ k ∈ foot v, w.heap.size ≤ k) ∧ Chg [] w w'
theorem FreshN.nil {w w1 : World} (h : Chg [] w w1) : FreshN w w1 (.slice none 0 0) [] := ⟨Row.nil _ _ _, (fun k hk => by cases hk), h⟩
theorem FreshN.before {w0 w w1 : World} {v : Value} {l : List (Int × Int)} (h0 : Chg [] w0 w) (h : FreshN w w1 v l) : FreshN w0 w1 v l := ⟨h.1, fun k hk => Nat.le_trans h0.size (h.2.1 k hk), h0.then h.2.2⟩
theorem FreshN.later {w w1 w2 : World} {v : Value} {l : List (Int × Int)} (h : FreshN w w1 v l) (hc : Chg [] w1 w2) : FreshN w w2 v l := ⟨h.1.chg hc (fun _ _ h => by cases h), h.2.1, h.2.2.then hc⟩
theorem FreshN.rs {w w1 : World} {v : Value} {l : List (Int × Int)} (h : FreshN w w1 v l) : Rs w1 39 2 v l.length (nms l) := Rs.of_row h.1
theorem nm_info : (Try.prog.info? 39).map (fun i => (i.zero, i.size, i.bytes)) = some (some (.agg #[.int .u64 0, .int .i64 0]), 2, 16) := by kernel_rfl
theorem nms_snoc (l : List (Int × Int)) (x : Int × Int) : nms (l ++ [x]) = nms l ++ [.int .u64 x.1, .int .i64 x.2] := by rw [nms_append]; simp [nms, nmCells]
theorem FreshN.append {w w1 w2 w3 : World} {v : Value} {l : List (Int × Int)} {x : Int × Int} {g c : Nat} (h : FreshN w w1 v l) (hc : Chg [] w1 w2) (hr : Row w3 39 2 (.slice (some ⟨g, 0, none⟩) (l.length + 1) c) (l.length + 1) (nms l ++ [.int .u64 x.1, .int .i64 x.2])) (hg : w2.grownBy w3 v.ownBlock) (hat : v.ownBlock = some g ∨ g = w2.heap.size) :
    FreshN w w3 (.slice (some ⟨g, 0, none⟩) (l.length + 1) c) (l ++ [x]) := by
  refine ⟨by rw [List.length_append, nms_snoc]; exact hr, fun k hk => ?_, (h.2.2.then hc).grown hg (fun k hk => .inr (h.2.1 k (row_mem hk)))⟩
  simp [foot_some] at hk
  subst hk
  rcases hat with h1 | h1
  · exact h.2.1 _ (row_mem h1)
  · have := h.2.2.size; have := hc.size; omega
set_option maxHeartbeats 3200000 in
set_option maxRecDepth 100000 in
theorem all_any {w : World} {g p : Nat} {S : List Nat} {K : List Tm} (H : HeapAt w g S K p) (hp : p ≤ 100000) :
    Calls Try.prog 12 #[.pointer (some ⟨g, 0, none⟩)] w fun e w' => ∃ v, e = .returned v ∧ FreshN w w' v (K.map pr) := by
  have hfew := H.few
  obtain ⟨A, c, ts, hpm, hsr, hB0, lg, hT⟩ : ∃ A c ts, ts.Perm K ∧ K.Pairwise Tm.lt ∧ w.cell? ⟨g, 0, none⟩ = some (.slice A ts.length c) ∧ g < w.heap.size ∧ Rs w 61 3 (.slice A ts.length c) ts.length (tms ts) := by
    rcases H with ⟨hB, rfl, rfl⟩ | ⟨h, b, c, m, ts, ⟨f, H, hP, hI⟩, h1, h2, rfl⟩
    · exact ⟨none, 0, [], List.Perm.refl _, List.Pairwise.nil, hB.cell 0, hB.lt, Rs.nil _ _ _⟩
    · exact ⟨_, _, ts, h1.perm, h1.sorted, H.head.1, H.lt g (by simp), Rs.of_row H.2.1⟩
  have HV := fun n W => values_any A n c W
  have HS := Lib.hid (fun W (hc : Chg [] w W) (hx : w.heap.size < W.heap.size) (hv : W.cell? ⟨w.heap.size, 0, none⟩ = some (.slice A ts.length c)) => sorted_any w.heap.size _ ts K W (by rw [hpm.length_eq]; omega) hx hv (hT.quiet hc) hpm hsr)
  obtain ⟨n, hnn⟩ : ∃ n, n = ts.length := ⟨_, rfl⟩
  obtain ⟨m, hmm⟩ : ∃ m, m = K.length := ⟨_, rfl⟩
  rw [← hnn] at HS hB0
  have hm1 : m ≤ 100000 := by omega
  have HM := Lib.hid hmm
  obtain ⟨i0, hi0, hz0, hz1, hz2⟩ := info_parts nm_info
  have HI0 := Lib.hid (show i0.zero = some (.agg #[.int .u64 0, .int .i64 0]) ∧ i0.size = 2 ∧ i0.bytes = 16 from ⟨hz0, hz1, hz2⟩)
  clear H hpm hsr hT hfew hp hnn hmm hz0 hz1 hz2
  go_enter Try.func12, Try.ntmps12
  go_wp2_with (first
    | (go_at_call 28; refine (HV _ _).mono ?_; rintro e w' ⟨rfl, rfl⟩)
    | (go_at_call 27; refine (HS.out _ ((Chg.refl _ _).alloc _) (by simp) (by simp)).mono ?_; rintro e w1 ⟨v, rfl, hf⟩; obtain ⟨A1, c1, rfl, _⟩ := hf.1.val; have HF := Lib.hid hf; clear hf))
  rw [← HM.out]
  obtain ⟨A2, c2, hv2, _, _, _, hcell⟩ := (Rs.of_row HF.out.1).open_
  simp only [Value.slice.injEq] at hv2
  obtain ⟨rfl, _, rfl⟩ := hv2
  have HCell := Lib.hid hcell
  have HC0 := Lib.hid (((Chg.refl _ _).alloc _).then HF.out.2.2 : Chg [] w w1)
  clear hcell HV HS
  go_loopw [3, 15] (fun v i wr => ∃ (k : Nat) (A3 : Option Addr) (c3 : Nat), k ≤ m ∧ i = .int .i64 k ∧ v = .slice A3 k c3 ∧ Hid (FreshN w1 wr (.slice A3 k c3) ((K.take k).map pr))) (fun _ i _ => m - (intOf' i).toNat)
  case atStart => exact ⟨0, none, 0, Nat.zero_le _, rfl, rfl, Lib.hid (by simpa using FreshN.nil (Chg.refl [] w1))⟩
  case round =>
    obtain ⟨k, A3, c3, hk, rfl, rfl, HR⟩ := hrel
    by_cases hlt : k < m
    · have k0 : (0 : Int) ≤ (k : Int) := by omega
      have k1 : (k : Int) < (m : Int) := by omega
      have hkl : k < K.length := by rw [← HM.out]; exact hlt
      obtain ⟨q0, q1, q2⟩ := tms_at (at_eq hkl)
      obtain ⟨bb, o, rfl, lb, e0⟩ := HCell.out _ _ q0
      obtain ⟨bb1, o1, hA1, _, e1⟩ := HCell.out _ _ q1
      obtain ⟨bb2, o2, hA2, _, e2⟩ := HCell.out _ _ q2
      cases hA1
      cases hA2
      rw [← Nat.add_assoc] at e1 e2
      have hc := HR.out.2.2
      have x0 := (hc.cell (p := ⟨bb, o + k * 3, none⟩) lb (by simp)).trans e0
      have x1 := (hc.cell (p := ⟨bb, o + k * 3 + 1, none⟩) lb (by simp)).trans e1
      have x2 := (hc.cell (p := ⟨bb, o + k * 3 + 2, none⟩) lb (by simp)).trans e2
      have HT := Lib.hid (show ((K.take (k + 1)).map pr) = (K.take k).map pr ++ [pr (at_ K k)] by rw [take_succ' hkl, List.map_append]; rfl)
      have HLen := Lib.hid (show ((K.take k).map pr).length = k by rw [List.length_map, List.length_take]; omega)
      have HRow := Lib.hid HR.out.1
      rw [HLen.out] at HRow
      generalize hxx : at_ K k = x at *
      obtain ⟨xa, xi, xp⟩ := x
      simp only at x0 x1 x2
      clear e0 e1 e2 q0 q1 q2 hc hxx
      go_wp2_with (at_builtin; refine wpList_append_row _ rfl _ _ _ rfl 39 i0 _ 2 16 Try.underlying27 hi0 HI0.out.1 HI0.out.2.1 HI0.out.2.2 rfl (.slice A3 k c3) k (nms ((K.take k).map pr)) rfl ((HRow.out.alloc _).alloc _) ⟨wr.heap.size + 1, 0, none⟩ 1 1 [.int .u64 xa, .int .i64 xi] rfl rfl (World.news_of_block (cs := #[.int .u64 xa, .int .i64 xi]) (t := 39) (fr := (0, 0)) (by simpa using heap_alloc_new (wr.alloc (.cells #[.int .u64 xa, .int .i64 xi, .int .u64 xp] 61)) (.cells #[.int .u64 xa, .int .i64 xi] 39))) (by simp [Value.oneCell']) (by omega) (by unfold maxLen; omega) (by omega) (wr.heap.size + 2) (by simp) ?_; intro h' c' w2 hown hgrow hat hlt1; have HA := Lib.hid (show FreshN w1 w2 (.slice (some ⟨h', 0, none⟩) (k + 1) c') ((K.take (k + 1)).map pr) from by
        rw [HT.out]
        have := HR.out.append (x := (xa, xi)) (((Chg.refl [] wr).alloc (.cells #[.int .u64 xa, .int .i64 xi, .int .u64 xp] 61)).alloc (.cells #[.int .u64 xa, .int .i64 xi] 39)) (by rw [HLen.out]; exact hown) hgrow (hat.imp _root_.id (fun e => by rw [e]; simp))
        rw [HLen.out] at this
        exact this); clear hown hgrow hat hlt1)
      go_roundw
      case rel => exact ⟨k + 1, _, _, by omega, by go_num, rfl, HA⟩
      case measure => simp [intOf']; omega
    · obtain rfl : k = m := by omega
      go_wp2
      go_ret
      refine ⟨_, rfl, ?_⟩
      have := HR.out
      rw [HM.out, List.take_length] at this
      rw [HM.out]
      exact this.before HC0.out
end Go.Proofs
