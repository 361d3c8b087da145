import Derived.Test.YtelkndhifkmpiaaHeM
namespace Go.Proofs
open Go.RowKit
set_option linter.unusedVariables false

set_option maxHeartbeats 3200000 in
set_option maxRecDepth 100000 in
theorem put_full {w : World} {g h b c m p : Nat} {ts K : List Tm} (hm : Hm w g h b c m p ts) (hs : St ts K p) (hmp : m ≤ p) (hp : p < 100000) (at' : Int) {id : Int} (hi : I64 id) (hb : hasId K id = false) :
    Calls Try.prog 17 #[.pointer (some ⟨g, 0, none⟩), .int .u64 at', .int .i64 id] w fun e w' => e = .returned (.int .i64 0) ∧ Turns g [g, h, b] (insK K ⟨at', id, p⟩) (p + 1) w w' := by
  have H : HeapAt w g [g, h, b] K p := .inr ⟨h, b, c, m, ts, hm, hs, hmp, rfl⟩
  have HH := has_any H hi
  rw [hb] at HH
  obtain ⟨f, HB, hP, hI⟩ := hm
  have hfn : f id = none := by
    have := hP.has hs.perm id
    rw [hb] at this
    cases e : f id with
    | none => rfl
    | some q => rw [e] at this; cases this
  have hfew := hs.few
  have hlen := hs.len
  have hlt := HB.lt
  obtain ⟨n1, n2, n3⟩ := HB.ne
  have c0 := HB.head.1
  have c1 := HB.head.2.1
  have c2 := HB.head.2.2
  have f0 := HB.1.frozen 0
  have f1 := HB.1.frozen 1
  have f2 := HB.1.frozen 2
  have lg := hlt g (by simp)
  obtain ⟨i0, hi0, hz0, hz1, hz2⟩ := info_parts tm_info
  have HI0 := Lib.hid (show i0.zero = some (.agg #[.int .u64 0, .int .i64 0, .int .u64 0]) ∧ i0.size = 3 ∧ i0.bytes = 24 from ⟨hz0, hz1, hz2⟩)
  have HG := Lib.hid (fun w2 o h' c' hR hg hat => HB.v.grown (w2 := w2) (h := h') (c := c') o hR hg hat)
  have HRow := Lib.hid HB.2.1
  have hq : ∀ W, (binOp .eql 53 (.map (some b)) (.map none)).run Try.prog W = .ok (.bool false) W := fun W => run_eql_map_nil_sl (P := Try.prog) W 53 3 3 (some b) Try.underlying53
  obtain ⟨n, hnn⟩ : ∃ n, n = ts.length := ⟨_, rfl⟩
  rw [← hnn] at c0
  have HN := Lib.hid hnn
  have hn1 : n ≤ 100000 := by omega
  have HNE := Lib.hid (show g < w.heap.size ∧ g ∉ foot (.slice (some ⟨h, 0, none⟩) ts.length c) from ⟨lg, by simpa [foot_some] using n1⟩)
  have HGf := Lib.hid (show (.slice (some ⟨h, 0, none⟩) ts.length c : Value) = .slice (some ⟨h, 0, none⟩) n c by rw [hnn])
  have HSet := Lib.hid (fun W h' c' (hW : HpB W g h' b c' (ts ++ [zT]) f m p) => by
    have := set_any hW (i := n) (by simp [hnn]) (by simp; omega) (by omega) ⟨at', id, p⟩ hi
    rw [show (f (⟨at', id, p⟩ : Tm).id).isSome = false by simp [hfn]] at this
    rw [show (ts ++ [zT]).set n ⟨at', id, p⟩ = ts ++ [⟨at', id, p⟩] by rw [hnn]; simp] at this
    simp only [agg, Bool.false_eq_true, if_false] at this
    exact this)
  have HUp := Lib.hid (fun W h' c' (hW : HpB W g h' b c' (ts ++ [⟨at', id, p⟩]) (upd f id n) (m + 1) (p + 1)) =>
    up_any (⟨_, hW, by rw [hnn]; exact hP.put (x := ⟨at', id, p⟩) hfn, fun x hx => by
      rcases List.mem_append.1 hx with hx | hx
      · exact hI x hx
      · simp at hx; subst hx; exact hi⟩ : Hm W g h' b c' (m + 1) (p + 1) (ts ++ [⟨at', id, p⟩])) (i := n) (by simp [hnn]) (by simp; omega) (by omega) (by rw [hnn]; exact put_hole hs.heap))
  have HEnd := Lib.hid (fun w1 w' h' c' (hE : UpEnds w1 g h' b c' (m + 1) (p + 1) (ts ++ [⟨at', id, p⟩]) n w') (hc : Chg [g, h, b] w w1) (hS : ∀ k ∈ [g, h', b], k ∈ [g, h, b] ∨ w.heap.size ≤ k) => put_ends (x := ⟨at', id, p⟩) hs rfl (by omega) (hnn ▸ hE) hc hS)
  have HLx := Lib.hid (show (ts ++ [(⟨at', id, p⟩ : Tm)]).length = n + 1 by simp [hnn])
  clear hP hI hs hb hfew hlen hlt H HB hnn hz0 hz1 hz2 n1 n2 n3 lg hmp
  go_enter Try.func17, Try.ntmps17
  go_wp2_with (first
    | (go_at_call 15; refine HH.mono ?_; rintro e w' ⟨rfl, rfl⟩)
    | (at_builtin; refine wpList_append_row _ rfl _ _ _ rfl 61 i0 _ 3 24 Try.underlying52 hi0 HI0.out.1 HI0.out.2.1 HI0.out.2.2 rfl (.slice (some ⟨h, 0, none⟩) n c) n (tms ts) rfl (HN.out ▸ HRow.out.alloc _) ⟨w.heap.size, 0, none⟩ 1 1 [.int .u64 0, .int .i64 0, .int .u64 0] rfl rfl (World.news_of_block (cs := #[.int .u64 0, .int .i64 0, .int .u64 0]) (t := 61) (fr := (0, 0)) (heap_alloc_new w _)) (by simp [Value.oneCell']) (by omega) (by unfold maxLen; omega) (by omega) (w.heap.size + 1) (by simp) ?_; intro h' c' w1 hown hgrow hat hlt1; have hcw : Chg (foot (.slice (some ⟨h, 0, none⟩) n c)) w w1 := ((Chg.refl _ w).alloc _).grown hgrow (fun k hk => .inl (row_mem hk)); have e0 := (hcw.cell (p := ⟨g, 0, none⟩) HNE.out.1 (HGf.out ▸ HNE.out.2)).trans c0; have e2 := (hcw.cell (p := ⟨g, 2, none⟩) HNE.out.1 (HGf.out ▸ HNE.out.2)).trans c2; have fe0 := (hcw.frozen (p := ⟨g, 0, none⟩) HNE.out.1 (HGf.out ▸ HNE.out.2)).trans f0; have HGR := Lib.hid (HG.out w1 _ h' c' (HN.out ▸ hown) (HN.out ▸ hgrow) (HN.out ▸ hat)); clear hown hgrow hat hlt1 hcw))
  rw [← HN.out] at HGR
  obtain ⟨hx1, hx2, hx3⟩ := HGR.out
  have HX1 := Lib.hid hx1
  have HX2 := Lib.hid hx2
  have HX3 := Lib.hid hx3
  have q0 := hx1.head.1
  have q2 := hx1.head.2.2
  have qf := hx1.1.frozen 2
  rw [show (ts ++ [zT]).length = n + 1 by simp [HN.out]] at q0
  clear hx1 hx2 hx3 HGR e0 e2 fe0
  generalize w1.setCell ⟨g, 0, none⟩ (.slice (some ⟨h', 0, none⟩) (n + 1) c') = W at *
  have hwr : IntKind.i64.wrap (n : Int) = n := by simp [IntKind.wrap, IntKind.bits, IntKind.signed]; omega
  go_region_held3 (fun w' => w'.cell? ⟨g, 0, none⟩ = some (.slice (some ⟨h', 0, none⟩) (n + 1) c') ∧ w'.cell? ⟨g, 2, none⟩ = some (.int .u64 p))
    (first | go_keep)
    (first
      | (go_at_call 31; refine (HSet.out _ _ _ (HX1.out.quiet (Chg.refl _ _).drew)).mono ?_; rintro e w3 ⟨rfl, hs3, hc3⟩; have e30 := hs3.head.1; rw [HLx.out] at e30; have e32 := hs3.head.2.2; have f32 := hs3.1.frozen 2; have HS3 := Lib.hid hs3; have HC3 := Lib.hid hc3; clear hs3 hc3))
  all_goals
    have hpw : IntKind.u64.wrap ((p : Int) + 1) = (p : Int) + 1 := by simp [IntKind.wrap, IntKind.bits, IntKind.signed]; omega
    have hup := HUp.out _ _ _ (HS3.out.puts.1)
    have HPC := Lib.hid HS3.out.puts.2
    have hh0 := HS3.out.puts.1.head.1
    rw [HLx.out] at hh0
    push_cast at hup HPC hh0
    go_wp2_with (first
      | (go_at_call 32; refine hup.mono ?_; rintro e w4 ⟨rfl, hE⟩; have HE := Lib.hid hE; clear hE))
    go_ret
    have hS : ∀ k ∈ [g, h', b], k ∈ [g, h, b] ∨ w.heap.size ≤ k := fun k hk => by
      simp at hk
      rcases hk with rfl | rfl | rfl
      · simp
      · rcases HX3.out with h9 | h9
        · simp [foot_some] at h9; simp [h9]
        · exact .inr h9
      · simp
    have hc0 : Chg [g, h, b] w W := HX2.out.mono (fun k hk => .inl (by simp [foot_some] at hk; rcases hk with rfl | rfl <;> simp))
    exact ⟨rfl, HEnd.out _ _ _ _ HE.out ((hc0.drew.trans HC3.out hS).trans HPC.out hS) hS⟩
set_option maxHeartbeats 3200000 in
set_option maxRecDepth 100000 in
theorem put_zero {w : World} {g p : Nat} (hB : Blk w g 55 #[.slice none 0 0, .map none, .int .u64 p]) (hp : p < 100000) (at' : Int) {id : Int} (hi : I64 id) :
    Calls Try.prog 17 #[.pointer (some ⟨g, 0, none⟩), .int .u64 at', .int .i64 id] w fun e w' => e = .returned (.int .i64 0) ∧ Turns g [g] [⟨at', id, p⟩] (p + 1) w w' := by
  have H : HeapAt w g [g] [] p := .inl ⟨hB, rfl, rfl⟩
  have HH := has_any H hi
  rw [show hasId [] id = false from rfl] at HH
  have c0 := hB.cell 0
  have c1 := hB.cell 1
  have c2 := hB.cell 2
  have f0 := hB.frozen 0
  have f1 := hB.frozen 1
  have f2 := hB.frozen 2
  have lg := hB.lt
  obtain ⟨i0, hi0, hz0, hz1, hz2⟩ := info_parts tm_info
  have HI0 := Lib.hid (show i0.zero = some (.agg #[.int .u64 0, .int .i64 0, .int .u64 0]) ∧ i0.size = 3 ∧ i0.bytes = 24 from ⟨hz0, hz1, hz2⟩)
  have hmm := @run_makeMap Try.prog
  have hq : ∀ W, (binOp .eql 53 (.map none) (.map none)).run Try.prog W = .ok (.bool true) W := fun W => run_eql_map_nil_sl (P := Try.prog) W 53 3 3 none Try.underlying53
  have hV : HpV ((w.setCell ⟨g, 1, none⟩ (.map (some w.heap.size))).alloc (.map #[] 0)) g (.slice none 0 0) w.heap.size [] (fun _ => none) 0 p := by
    refine ⟨?_, Row.nil _ _ _, ?_⟩
    · have := (hB.set_ 1 (.map (some w.heap.size))).alloc (.map #[] 0)
      simpa using this
    · have := Mp.made (w.setCell ⟨g, 1, none⟩ (.map (some w.heap.size)))
      simpa [World.setCell] using this
  have HG := Lib.hid (fun w2 o h' c' hR hg hat => hV.grown (w2 := w2) (h := h') (c := c') o hR hg hat)
  have HBW := Lib.hid hV.1
  have HW0 := Lib.hid (show Chg [g] w ((w.setCell ⟨g, 1, none⟩ (.map (some w.heap.size))).alloc (.map #[] 0)) from ((Chg.refl [g] w).setCell (p := ⟨g, 1, none⟩) (.inl (by simp)) _).alloc _)
  have HSet := Lib.hid (fun W h' c' (hW : HpB W g h' w.heap.size c' [zT] (fun _ => none) 0 p) => by
    have := set_any hW (i := 0) (by simp) (by simp) (by omega) ⟨at', id, p⟩ hi
    rw [show [zT].set 0 (⟨at', id, p⟩ : Tm) = [⟨at', id, p⟩] from rfl] at this
    simp only [agg, Option.isSome_none, Bool.false_eq_true, if_false] at this
    exact this)
  have HUp := Lib.hid (fun W h' c' (hW : HpB W g h' w.heap.size c' [⟨at', id, p⟩] (upd (fun _ => none) id 0) (0 + 1) (p + 1)) =>
    up_any (⟨_, hW, Plcs.put (ts := []) (f := fun _ => none) ⟨fun k x h => by simp at h, fun id h => absurd rfl h⟩ (x := ⟨at', id, p⟩) rfl, fun x hx => by
      simp at hx; subst hx; exact hi⟩ : Hm W g h' w.heap.size c' (0 + 1) (p + 1) [⟨at', id, p⟩]) (i := 0) (by simp) (by simp) (by omega) (put_hole (ts := []) (x := ⟨at', id, p⟩) (fun k h0 h1 => by simp at h1)))
  have hs0 : St [] [] p := ⟨List.Perm.refl _, List.Pairwise.nil, fun k h0 h1 => by simp at h1, fun x hx => by simp at hx, by simp⟩
  have HEnd := Lib.hid (fun w1 w' h' c' (hE : UpEnds w1 g h' w.heap.size c' (0 + 1) (p + 1) [⟨at', id, p⟩] 0 w') (hc : Chg [g] w w1) (hS : ∀ k ∈ [g, h', w.heap.size], k ∈ [g] ∨ w.heap.size ≤ k) => put_ends (x := ⟨at', id, p⟩) (ts := []) hs0 rfl (by omega) hE hc hS)
  clear H hz0 hz1 hz2 hV hs0
  go_enter Try.func17, Try.ntmps17
  go_wp2_with (first
    | (go_at_call 15; refine HH.mono ?_; rintro e w' ⟨rfl, rfl⟩)
    | (at_builtin; refine wpList_append_row _ rfl _ _ _ rfl 61 i0 _ 3 24 Try.underlying52 hi0 HI0.out.1 HI0.out.2.1 HI0.out.2.2 rfl (.slice none 0 0) 0 [] rfl (Row.nil _ _ _) ⟨w.heap.size + 1, 0, none⟩ 1 1 [.int .u64 0, .int .i64 0, .int .u64 0] rfl rfl (World.news_of_block (cs := #[.int .u64 0, .int .i64 0, .int .u64 0]) (t := 61) (fr := (0, 0)) (by simpa [World.setCell] using heap_alloc_new ((w.setCell ⟨g, 1, none⟩ (.map (some w.heap.size))).alloc (.map #[] 0)) (.cells #[.int .u64 0, .int .i64 0, .int .u64 0] 61))) (by simp [Value.oneCell']) (by omega) (by unfold maxLen; omega) (by omega) (w.heap.size + 2) (by simp) ?_; intro h' c' w1 hown hgrow hat hlt1; have hat2 : (Value.slice none 0 0).ownBlock = some h' ∨ h' = ((w.setCell ⟨g, 1, none⟩ (.map (some w.heap.size))).alloc (.map #[] 0)).heap.size + 1 := hat.imp _root_.id (fun e => by rw [e]; simp [World.setCell]); have HGR := Lib.hid (HG.out w1 _ h' c' hown hgrow hat2); have hcw : Chg [] ((w.setCell ⟨g, 1, none⟩ (.map (some w.heap.size))).alloc (.map #[] 0)) w1 := ((Chg.refl [] _).alloc _).grown hgrow (fun k hk => by cases hk); have hbw := HBW.out.chg hcw (by simp); have e0 : w1.cell? ⟨g, 0, none⟩ = some (.slice none 0 0) := hbw.cell 0; have fe0 := hbw.frozen 0; clear hown hgrow hat hlt1 hcw hat2 hbw))
  obtain ⟨hx1, hx2, hx3⟩ := HGR.out
  have HX1 := Lib.hid hx1
  have HX2 := Lib.hid hx2
  have HX3 := Lib.hid hx3
  have q0 : (w1.setCell ⟨g, 0, none⟩ (.slice (some ⟨h', 0, none⟩) (0 + 1) c')).cell? ⟨g, 0, none⟩ = some (.slice (some ⟨h', 0, none⟩) (0 + 1) c') := hx1.head.1
  have q2 : (w1.setCell ⟨g, 0, none⟩ (.slice (some ⟨h', 0, none⟩) (0 + 1) c')).cell? ⟨g, 2, none⟩ = some (.int .u64 p) := hx1.head.2.2
  clear hx1 hx2 hx3 HGR e0 fe0 c0 c1 c2 f0 f1 f2
  simp only [Nat.zero_add, List.length_nil, List.nil_append] at q0 q2 HX1 HX2
  generalize w1.setCell ⟨g, 0, none⟩ (.slice (some ⟨h', 0, none⟩) 1 c') = W at *
  go_region_held3 (fun w' => w'.cell? ⟨g, 0, none⟩ = some (.slice (some ⟨h', 0, none⟩) 1 c') ∧ w'.cell? ⟨g, 2, none⟩ = some (.int .u64 p))
    (first | go_keep)
    (first
      | (go_at_call 31; refine (HSet.out _ _ _ (HX1.out.quiet (Chg.refl _ _).drew)).mono ?_; rintro e w3 ⟨rfl, hs3, hc3⟩; have e30 : w3.cell? ⟨g, 0, none⟩ = some (.slice (some ⟨h', 0, none⟩) 1 c') := hs3.head.1; have e32 := hs3.head.2.2; have f32 := hs3.1.frozen 2; have HS3 := Lib.hid hs3; have HC3 := Lib.hid hc3; clear hs3 hc3))
  all_goals
    have hpw : IntKind.u64.wrap ((p : Int) + 1) = (p : Int) + 1 := by simp [IntKind.wrap, IntKind.bits, IntKind.signed]; omega
    have hup := HUp.out _ _ _ (HS3.out.puts.1)
    have HPC := Lib.hid HS3.out.puts.2
    have hh0 := HS3.out.puts.1.head.1
    have hlen1 : ([⟨at', id, p⟩] : List Tm).length = 1 := rfl
    rw [hlen1] at hh0
    push_cast at hup HPC hh0
    go_wp2_with (first
      | (go_at_call 32; refine hup.mono ?_; rintro e w4 ⟨rfl, hE⟩; have HE := Lib.hid hE; clear hE))
    go_ret
    have hS : ∀ k ∈ [g, h', w.heap.size], k ∈ [g] ∨ w.heap.size ≤ k := fun k hk => by
      simp at hk
      rcases hk with rfl | rfl | rfl
      · simp
      · rcases HX3.out with h9 | h9
        · simp [foot_nil] at h9
        · have := HW0.out.size; exact .inr (by omega)
      · exact .inr (Nat.le_refl _)
    have hc0 : Chg [g] w W := HW0.out.trans HX2.out (fun k hk => .inl (by simpa [foot_nil] using hk))
    exact ⟨rfl, HEnd.out _ _ _ _ HE.out ((hc0.drew.trans HC3.out hS).trans HPC.out hS) hS⟩
/-- Put, whatever the heap. -/
theorem put_any {w : World} {g p : Nat} {S : List Nat} {K : List Tm} (H : HeapAt w g S K p) (hp : p < 100000) (at' : Int) {id : Int} (hi : I64 id) :
    Calls Try.prog 17 #[.pointer (some ⟨g, 0, none⟩), .int .u64 at', .int .i64 id] w fun e w' => e = .returned (.int .i64 (if hasId K id then 14 else 0)) ∧ ∃ p', p' ≤ p + 1 ∧ Turns g S (if hasId K id then K else insK K ⟨at', id, p⟩) p' w w' := by
  by_cases hb : hasId K id = true
  · rw [hb, if_pos rfl, if_pos rfl]
    refine (put_busy H at' hi hb).mono ?_
    rintro e w' ⟨h1, rfl⟩
    exact ⟨h1, p, by omega, Turns.refl H (Chg.refl _ _)⟩
  · have hf : hasId K id = false := by simpa using hb
    rw [hf]
    simp only [Bool.false_eq_true, if_false]
    rcases H with ⟨hB, rfl, rfl⟩ | ⟨h, b, c, m, ts, hm, hs, hmp, rfl⟩
    · exact (put_zero hB hp at' hi).mono fun e w' ⟨h1, h2⟩ => ⟨h1, p + 1, by omega, h2⟩
    · exact (put_full hm hs hmp hp at' hi hf).mono fun e w' ⟨h1, h2⟩ => ⟨h1, p + 1, by omega, h2⟩
end Go.Proofs
