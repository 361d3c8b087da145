import Derived.Test.YtocdkomjdcccoaaGreatM13
import Derived.LoopTactic
import Derived.OwnWalk
import Derived.Test.YtocdkomjdcccoaaGreatM8
section
namespace Go.Proofs
open Go.RowKit
set_option linter.unusedVariables false
/-- New contexts, in new blocks. -/
def RMade (r : RTab) (w w' : World) : Prop := ∃ h S, h = w.heap.size ∧ RefAt w' h S r ∧ (∀ k ∈ S, w.heap.size ≤ k) ∧ Chg [] w w'
theorem pl_info : (Tryz.prog.info? 54).map (fun i => (i.zero, i.size, i.bytes)) = some (some (.agg #[.int .u64 0, .bool false, .int .u64 0, .int .u64 0, .slice none 0 0, .int .i64 0, .int .i64 0]), 7, 72) := by kernel_rfl
def intOfN : Value → Int
  | .int _ n => n
  | _ => 0
def newL (n : Nat) : List Pl := (List.range n).map fun i => ⟨1, false, cx0, -1 - ((i : Nat) : Int)⟩
theorem newL_succ (n : Nat) : newL (n + 1) = newL n ++ [⟨1, false, cx0, -1 - ((n : Nat) : Int)⟩] := by unfold newL; rw [List.range_succ, List.map_append]; rfl
theorem newL_len (n : Nat) : (newL n).length = n := by unfold newL; simp
theorem newL_rd (n : Nat) (W : World) : ∀ (k : Nat) (p : Pl), (newL n)[k]? = some p → Rd W p.x.v p.x.l := fun k p hp => by
  unfold newL at hp
  rw [List.getElem?_map] at hp
  cases hk : (List.range n)[k]? with
  | none => rw [hk] at hp; cases hp
  | some j => rw [hk] at hp; cases hp; exact Rd.nil W
set_option maxHeartbeats 1600000 in
set_option maxRecDepth 100000 in
theorem rnew_any (n : Nat) (hn : n ≤ 4096) (most : Int) (w : World) : Calls Tryz.prog 11 #[.int .i64 (n : Nat), .int .i64 most] w fun e w' => e = .returned (.pointer (some ⟨w.heap.size, 0, none⟩)) ∧ RMade ⟨newL n, 0, most⟩ w w' := by
  obtain ⟨i0, hi0, hz0, hz1, hz2⟩ := info_parts pl_info
  obtain ⟨h, hh⟩ : ∃ h, h = w.heap.size := ⟨_, rfl⟩
  have Hh := Lib.hid hh
  go_enter Tryz.func11, Tryz.ntmps11
  go_wp2
  rw [← hh]
  clear hh
  go_loopw [6] (fun i wr => ∃ (k : Nat) (S : List Nat), k ≤ n ∧ i = .int .i64 k ∧ RefAt wr h S ⟨newL k, 0, most⟩ ∧ (∀ j ∈ S, w.heap.size ≤ j) ∧ Chg [] w wr) (fun i wr => n - (intOfN i).toNat)
  case atStart =>
    refine ⟨0, [h], Nat.zero_le _, rfl, ⟨.slice none 0 0, ?_, Row.nil _ _ _, rfl, newL_rd 0 _⟩, by rw [Hh.out]; simp, (Chg.refl _ _).alloc _⟩
    rw [Hh.out]
    exact Blk.new w _ _
  case round =>
    obtain ⟨k, S, hk, rfl, hR, hS, hc⟩ := hrel
    obtain ⟨VL, hB, hL, rfl, hGG⟩ := hR
    have HGG := Lib.hid hGG
    clear hGG
    obtain ⟨A, c, rfl, _⟩ := hL.val
    have c0 := hB.cell 0
    have f0 := hB.frozen 0
    have lh := hB.lt
    simp only [newL_len] at hL c0
    by_cases hlt : k < n
    · have hne : (Value.slice A k c).ownBlock ≠ some h := fun e => hL.ty hB (by decide) (row_mem e)
      have hB' := Lib.hid hB
      have HS := Lib.hid hS
      have HC := Lib.hid hc
      clear hB hS hc
      go_wp2_with (at_builtin; refine wpList_append_row _ rfl _ _ 50 (by rfl) 54 i0 _ 7 72 Tryz.underlying50 hi0 hz0 hz1 hz2 rfl (.slice A k c) k (plCells (newL k)) (by rfl) (hL.alloc _) ⟨wr.heap.size, 0, none⟩ 1 1 [.int .u64 1, .bool false, .int .u64 0, .int .u64 0, .slice none 0 0, .int .i64 0, .int .i64 (-1 - ((k : Nat) : Int))] (by rfl) (by rfl) (World.news_of_block (cs := #[.int .u64 1, .bool false, .int .u64 0, .int .u64 0, .slice none 0 0, .int .i64 0, .int .i64 (-1 - ((k : Nat) : Int))]) (t := 54) (fr := (0, 0)) (heap_alloc_new wr _)) (by simp [Value.oneCell']) (by omega) (by unfold maxLen; omega) (by omega) (wr.heap.size + 1) (by simp) ?_; intro g cap w1 hown hgrow hat hlt1; have e2 := (hgrow.cell_far ⟨h, 0, none⟩ (by simp; omega) (Ne.symm hne)).trans ((hB'.out.alloc _).cell 0); have e3 := (hgrow.frozen_far ⟨h, 0, none⟩ (by simp; omega) (Ne.symm hne)).trans ((hB'.out.alloc _).frozen 0))
      go_roundw
      case rel =>
        refine ⟨k + 1, h :: foot (.slice (some ⟨g, 0, none⟩) (k + 1) cap), by omega, by go_num, ?_, ?_, ?_⟩
        · have hr := hown.far (p := ⟨h, 0, none⟩) ?_ (.slice (some ⟨g, 0, none⟩) (k + 1) cap)
          · rw [show plCells (newL k) ++ [.int .u64 1, .bool false, .int .u64 0, .int .u64 0, .slice none 0 0, .int .i64 0, .int .i64 (-1 - ((k : Nat) : Int))] = plCells (newL (k + 1)) by rw [newL_succ, plCells_append]; rfl] at hr
            refine ⟨.slice (some ⟨g, 0, none⟩) (k + 1) cap, ?_, by simpa only [newL_len] using hr, rfl, newL_rd (k + 1) _⟩
            exact ((hB'.out.alloc _).same (hgrow.block _ (by simp; omega) (Ne.symm hne))).set_ 0 _
          · simp only [foot_some, List.mem_singleton]
            rintro rfl
            rcases hat with h9 | h9
            · exact hne h9
            · omega
        · intro j hj
          simp [foot_some] at hj
          rcases hj with rfl | rfl
          · exact HS.out _ (by simp)
          · rcases hat with h9 | h9
            · exact HS.out _ (by simp [newL_len, row_mem h9])
            · have := HC.out.size; omega
        · exact Chg.setCell ((HC.out.alloc _).grown hgrow (fun j hj => .inr (HS.out _ (by simp [newL_len, row_mem hj])))) (.inr (HS.out _ (by simp))) _
      case measure => simp [intOfN]; omega
    · obtain rfl : k = n := by omega
      go_wp2
      go_ret
      refine ⟨by rw [← Hh.out]; rfl, h, h :: foot (.slice A (newL k).length c), Hh.out, ?_⟩
      exact ⟨⟨_, hB, by simpa only [newL_len] using hL, rfl, newL_rd k _⟩, hS, hc⟩
end Go.Proofs
end
section
namespace Go.Proofs
open Go.RowKit
set_option linter.unusedVariables false
theorem drop_ctx {w : World} {c : Nat} {S : List Nat} {t : Tab Cx} {most : Int} (h : CtxAt w c S t most) {i q : Int} (hq : t.has i q = true) (hr : q + 1 < topG) :
    ∃ g, Blk w c 66 #[.pointer (some ⟨g, 0, none⟩), .int .i64 most] ∧ ∀ W, Chg [] w W →
      Calls Tryz.prog 58 #[.pointer (some ⟨g, 0, none⟩), .agg #[.int .i64 i, .int .u64 q]] W fun e w' => e = .returned (.int .i64 0) ∧ CtxTurns c S (t.drop cx0 i.toNat q) most w w' := by
  obtain ⟨g, hB, hT, hG, hW⟩ := h
  refine ⟨g, hB, fun W hc => ?_⟩
  refine (drop_yes_C (hT.quiet hc) hW hq hr).mono ?_
  rintro e w' ⟨rfl, hT'⟩
  obtain ⟨s, hl, he⟩ := has_iff.1 hq
  obtain ⟨j0, hs, hth⟩ := live_iff.1 hl
  have hi := (List.getElem?_eq_some_iff.1 hs).1
  exact ⟨rfl, (CtxTurns.of (hB.chg hc (by simp)) (hT.quiet hc) hT' ((hG.quiet hc).drop hi q) (by rw [← he]; exact hW.drop hs hth)).earlier hc⟩
theorem ptr_facts {w W w2 : World} {n : Nat} {v : Value} (hn : n = w.heap.size) (hW : Chg [] (w.alloc (.cells #[v] 24)) W) (hc : Chg [] W w2) : Blk w2 n 24 #[v] := by
  subst hn
  exact ((Blk.new w 24 #[v]).chg hW (by simp)).chg hc (by simp)
theorem ref_blk {w W w2 : World} {i q : Int} {n : Nat} (hn : n = w.heap.size) (hW : Chg [] (w.alloc (obRef i q)) W) (hc : Chg [] W w2) : Blk w2 n 34 #[.int .i64 i, .int .u64 q] := by
  subst hn
  exact ((Blk.new w 34 #[.int .i64 i, .int .u64 q]).chg hW (by simp)).chg hc (by simp)
def bindE (t : Tab Cx) (i q : Int) : Int := if t.has i q then 0 else 11
theorem bind_refused {w : World} {c n m : Nat} {S : List Nat} {t : Tab Cx} {most i q : Int} (h : CtxAt w c S t most) (hcl : Clo w (cloGone n m) (!t.has i q)) (o : Obj)
    (ho : o = .cells #[.int .i64 1, .func (.func 49) #[ptr c] #[], .int .i64 11, cloGone n m] 90) :
    Calls Tryz.prog 48 #[.slice (some ⟨w.heap.size, 0, none⟩) 2 2] (w.alloc o) fun e w' => e = .returned (.int .i64 (bindE t i q)) ∧ Chg [] (w.alloc o) w' := by
  subst ho
  have hc := (Chg.refl [] w).alloc (.cells #[.int .i64 1, .func (.func 49) #[ptr c] #[], .int .i64 11, cloGone n m] 90)
  have hE : bindE t i q = firstE [(1, .func (.func 49) #[ptr c] #[], false), (11, cloGone n m, !t.has i q)] := by
    unfold bindE; cases t.has i q <;> simp [firstE]
  rw [hE]
  refine refused_any (Blk.new _ 90 _) rfl (by omega) (clos_all ?_)
  simp only [List.forall_mem_cons]
  exact ⟨clo_none (h.quiet hc), hcl.quiet hc, fun _ h => by cases h⟩
set_option maxHeartbeats 1600000 in
set_option maxRecDepth 100000 in
theorem Bind_any {w : World} {c : Nat} {S : List Nat} {t : Tab Cx} {most : Int} (h : CtxAt w c S t most) {i q : Int} (i0 : -9223372036854775808 ≤ i) (i1 : i ≤ 9223372036854775807)
    (n0 : 0 ≤ (t.at_ i q).n) (n1 : (t.at_ i q).n ≤ 1000000) :
    Calls Tryz.prog 27 #[ptr c, .agg #[.int .i64 i, .int .u64 q]] w fun e w' => e = .returned (.int .i64 (bindE t i q)) ∧ CtxTurns c S (if t.has i q then t.thing i.toNat { t.at_ i q with n := (t.at_ i q).n + 1 } else t) most w w' := by
  have HG := Lib.hid (fun W (hW : Chg [] w W) => gone_any (h.quiet hW) i0 i1 (q := q))
  have HR := Lib.hid (fun W (hW : Chg [] w W) n m => bind_refused (h.quiet hW) (n := n) (m := m) (i := i) (q := q))
  have HBI := Lib.hid (fun W (hW : Chg [] w W) hq => bind_any (h.quiet hW) i0 i1 (q := q) (more := 1) hq (by omega) (by omega))
  have HH := Lib.hid h
  cases hq : t.has i q with
  | false =>
    have he : bindE t i q = 11 := by unfold bindE; rw [hq]; rfl
    rw [he] at HR ⊢
    clear h he hq n0 n1
    go_enter Tryz.func27, Tryz.ntmps27
    go_wp2_with (first
      | (go_at_call 55; refine (HG.out _ ((Chg.refl _ _).alloc _)).mono ?_; rintro e w2 ⟨⟨n, m, rfl, hcl⟩, hc⟩; have HC := Lib.hid (((Chg.refl [] w).alloc _).then hc); have HCL := Lib.hid hcl; clear hc hcl)
      | (go_at_call 48; refine (HR.out _ HC.out _ _ HCL.out _ rfl).mono ?_; rintro e w3 ⟨rfl, hc⟩; have HC3 := Lib.hid ((HC.out.alloc _).then hc); clear hc))
    go_ret
    exact ⟨rfl, CtxTurns.refl HH.out HC3.out⟩
  | true =>
    have he : bindE t i q = 0 := by unfold bindE; rw [hq]; rfl
    rw [he] at HR ⊢
    have HQ := Lib.hid hq
    clear h he hq n0 n1
    go_enter Tryz.func27, Tryz.ntmps27
    go_wp2_with (first
      | (go_at_call 55; refine (HG.out _ ((Chg.refl _ _).alloc _)).mono ?_; rintro e w2 ⟨⟨n, m, rfl, hcl⟩, hc⟩; have HB := Lib.hid (ref_blk (w := w) rfl (Chg.refl [] _) hc); have HC := Lib.hid (((Chg.refl [] w).alloc _).then hc); have HCL := Lib.hid hcl; clear hc hcl)
      | (go_at_call 48; refine (HR.out _ HC.out _ _ HCL.out _ rfl).mono ?_; rintro e w3 ⟨rfl, hc⟩; have HC3 := Lib.hid ((HC.out.alloc _).then hc); have hb := (HB.out.alloc _).chg hc (by simp); have k0 := hb.cell 0; have k1 := hb.cell 1; clear hc hb)
      | (go_at_call 68; refine (HBI.out _ HC3.out HQ.out).mono ?_; rintro e w4 ⟨rfl, hT⟩; have HT := Lib.hid (hT.earlier HC3.out); clear hT))
    go_ret
    exact ⟨rfl, HT.out⟩
def unbindE (t : Tab Cx) (i q : Int) : Int := if t.has i q then (if ((t.at_ i q).n == 0) then 5 else 0) else 11
theorem unbind_refused {w : World} {c n m b1 b2 : Nat} {S : List Nat} {t : Tab Cx} {most i q : Int} (h : CtxAt w c S t most) (i0 : -9223372036854775808 ≤ i) (i1 : i ≤ 9223372036854775807) (hcl : Clo w (cloGone n m) (!t.has i q)) (hb : Blk w b1 24 #[ptr c]) (hr : Blk w b2 34 #[.int .i64 i, .int .u64 q]) (o : Obj)
    (ho : o = .cells #[.int .i64 1, .func (.func 49) #[ptr c] #[], .int .i64 11, cloGone n m, .int .i64 5, .func (.func 69) #[] #[ptr b1, ptr b2]] 90) :
    Calls Tryz.prog 48 #[.slice (some ⟨w.heap.size, 0, none⟩) 3 3] (w.alloc o) fun e w' => e = .returned (.int .i64 (unbindE t i q)) ∧ Chg [] (w.alloc o) w' := by
  subst ho
  have hc := (Chg.refl [] w).alloc (.cells #[.int .i64 1, .func (.func 49) #[ptr c] #[], .int .i64 11, cloGone n m, .int .i64 5, .func (.func 69) #[] #[ptr b1, ptr b2]] 90)
  have hE : unbindE t i q = firstE [(1, .func (.func 49) #[ptr c] #[], false), (11, cloGone n m, !t.has i q), (5, .func (.func 69) #[] #[ptr b1, ptr b2], ((t.at_ i q).n == 0))] := by
    unfold unbindE; cases t.has i q <;> simp [firstE]
  rw [hE]
  refine refused_any (Blk.new _ 90 _) rfl (by omega) (clos_all ?_)
  simp only [List.forall_mem_cons]
  exact ⟨clo_none (h.quiet hc), hcl.quiet hc, clo_69 (h.quiet hc) i0 i1 (hb.chg hc (by simp)) (hr.chg hc (by simp)), fun _ h => by cases h⟩
set_option maxHeartbeats 1600000 in
set_option maxRecDepth 100000 in
theorem Unbind_no {w : World} {c : Nat} {S : List Nat} {t : Tab Cx} {most : Int} (h : CtxAt w c S t most) {i q : Int} (i0 : -9223372036854775808 ≤ i) (i1 : i ≤ 9223372036854775807) (he : (unbindE t i q == 0) = false) :
    Calls Tryz.prog 28 #[ptr c, .agg #[.int .i64 i, .int .u64 q]] w fun e w' => e = .returned (.int .i64 (unbindE t i q)) ∧ Chg [] w w' := by
  have HG := Lib.hid (fun W (hW : Chg [] w W) => gone_any (h.quiet hW) i0 i1 (q := q))
  have HR := Lib.hid (fun W (hW : Chg [] w W) n m b1 b2 => unbind_refused (h.quiet hW) (n := n) (m := m) (b1 := b1) (b2 := b2) i0 i1 (q := q))
  obtain ⟨E, hE⟩ : ∃ E, E = unbindE t i q := ⟨_, rfl⟩
  rw [← hE] at HR he ⊢
  clear h hE
  go_enter Tryz.func28, Tryz.ntmps28
  go_wp2
  go_region_held3 (fun w' => w'.cell? ⟨w.heap.size, 0, none⟩ = some (ptr c) ∧ w'.cell? ⟨w.heap.size + 1, 0, none⟩ = some (.int .i64 i) ∧ w'.cell? ⟨w.heap.size + 1, 1, none⟩ = some (.int .u64 q))
    (first | go_keep)
    (first
      | (go_at_call 55; refine (HG.out _ ((((Chg.refl _ _).alloc _).alloc _).drew)).mono ?_; rintro e w2 ⟨⟨n, m, rfl, hcl⟩, hc⟩; have HB2 := Lib.hid (ref_blk (w := w.alloc (.cells #[ptr c] 24)) (n := w.heap.size + 1) (by simp) ((Chg.refl [] _).drew) hc); have HB1 := Lib.hid (ptr_facts (w := w) rfl (((Chg.refl [] _).alloc _).drew) hc); have HC := Lib.hid ((((Chg.refl [] w).alloc _).alloc _).drew.then hc); have HCL := Lib.hid hcl; have k0 := HB1.out.cell 0; have k1 := HB2.out.cell 0; have k2 := HB2.out.cell 1; have lw2 := HB2.out.lt; clear hc hcl)
      | (go_at_call 48; refine (HR.out _ HC.out _ _ _ _ HCL.out HB1.out HB2.out _ rfl).mono ?_; rintro e w3 ⟨rfl, hc⟩; have HC3 := Lib.hid ((HC.out.alloc _).then hc); have hb1 := (HB1.out.alloc _).chg hc (by simp); have hb2 := (HB2.out.alloc _).chg hc (by simp); have j0 := hb1.cell 0; have j1 := hb2.cell 0; have j2 := hb2.cell 1; clear hc hb1 hb2))
  all_goals
    go_wp2
    go_ret
    exact ⟨rfl, HC3.out⟩
set_option maxHeartbeats 1600000 in
set_option maxRecDepth 100000 in
theorem Unbind_yes {w : World} {c : Nat} {S : List Nat} {t : Tab Cx} {most : Int} (h : CtxAt w c S t most) {i q : Int} (i0 : -9223372036854775808 ≤ i) (i1 : i ≤ 9223372036854775807) (he : unbindE t i q = 0)
    (n0 : 0 ≤ (t.at_ i q).n) (n1 : (t.at_ i q).n ≤ 1000000) :
    Calls Tryz.prog 28 #[ptr c, .agg #[.int .i64 i, .int .u64 q]] w fun e w' => e = .returned (.int .i64 0) ∧ CtxTurns c S (t.thing i.toNat { t.at_ i q with n := (t.at_ i q).n + -1 }) most w w' := by
  have hq : t.has i q = true := by
    unfold unbindE at he
    cases hh : t.has i q with
    | true => rfl
    | false => rw [hh] at he; simp at he
  have HG := Lib.hid (fun W (hW : Chg [] w W) => gone_any (h.quiet hW) i0 i1 (q := q))
  have HR := Lib.hid (fun W (hW : Chg [] w W) n m b1 b2 => unbind_refused (h.quiet hW) (n := n) (m := m) (b1 := b1) (b2 := b2) i0 i1 (q := q))
  have HBI := Lib.hid (fun W (hW : Chg [] w W) => bind_any (h.quiet hW) i0 i1 (q := q) (more := -1) hq (by omega) (by omega))
  rw [he] at HR
  clear h he hq n0 n1
  go_enter Tryz.func28, Tryz.ntmps28
  go_wp2
  go_region_held3 (fun w' => w'.cell? ⟨w.heap.size, 0, none⟩ = some (ptr c) ∧ w'.cell? ⟨w.heap.size + 1, 0, none⟩ = some (.int .i64 i) ∧ w'.cell? ⟨w.heap.size + 1, 1, none⟩ = some (.int .u64 q))
    (first | go_keep)
    (first
      | (go_at_call 55; refine (HG.out _ ((((Chg.refl _ _).alloc _).alloc _).drew)).mono ?_; rintro e w2 ⟨⟨n, m, rfl, hcl⟩, hc⟩; have HB2 := Lib.hid (ref_blk (w := w.alloc (.cells #[ptr c] 24)) (n := w.heap.size + 1) (by simp) ((Chg.refl [] _).drew) hc); have HB1 := Lib.hid (ptr_facts (w := w) rfl (((Chg.refl [] _).alloc _).drew) hc); have HC := Lib.hid ((((Chg.refl [] w).alloc _).alloc _).drew.then hc); have HCL := Lib.hid hcl; have k0 := HB1.out.cell 0; have k1 := HB2.out.cell 0; have k2 := HB2.out.cell 1; have lw2 := HB2.out.lt; clear hc hcl)
      | (go_at_call 48; refine (HR.out _ HC.out _ _ _ _ HCL.out HB1.out HB2.out _ rfl).mono ?_; rintro e w3 ⟨rfl, hc⟩; have HC3 := Lib.hid ((HC.out.alloc _).then hc); have hb1 := (HB1.out.alloc _).chg hc (by simp); have hb2 := (HB2.out.alloc _).chg hc (by simp); have j0 := hb1.cell 0; have j1 := hb2.cell 0; have j2 := hb2.cell 1;  clear hc hb1 hb2))
  all_goals
    go_wp2_with (go_at_call 68; refine (HBI.out _ HC3.out).mono ?_; rintro e w4 ⟨rfl, hT⟩; have HT := Lib.hid (hT.earlier HC3.out); clear hT)
    go_ret
    exact ⟨rfl, HT.out⟩
def dropE (t : Tab Cx) (i q : Int) : Int := if t.has i q then (if decide (0 < (t.at_ i q).n) then 14 else 0) else 11
theorem dropc_refused {w : World} {c n m b1 b2 : Nat} {S : List Nat} {t : Tab Cx} {most i q : Int} (h : CtxAt w c S t most) (i0 : -9223372036854775808 ≤ i) (i1 : i ≤ 9223372036854775807) (hcl : Clo w (cloGone n m) (!t.has i q)) (hb : Blk w b1 24 #[ptr c]) (hr : Blk w b2 34 #[.int .i64 i, .int .u64 q]) (o : Obj)
    (ho : o = .cells #[.int .i64 1, .func (.func 49) #[ptr c] #[], .int .i64 11, cloGone n m, .int .i64 14, .func (.func 56) #[] #[ptr b1, ptr b2]] 90) :
    Calls Tryz.prog 48 #[.slice (some ⟨w.heap.size, 0, none⟩) 3 3] (w.alloc o) fun e w' => e = .returned (.int .i64 (dropE t i q)) ∧ Chg [] (w.alloc o) w' := by
  subst ho
  have hc := (Chg.refl [] w).alloc (.cells #[.int .i64 1, .func (.func 49) #[ptr c] #[], .int .i64 11, cloGone n m, .int .i64 14, .func (.func 56) #[] #[ptr b1, ptr b2]] 90)
  have hE : dropE t i q = firstE [(1, .func (.func 49) #[ptr c] #[], false), (11, cloGone n m, !t.has i q), (14, .func (.func 56) #[] #[ptr b1, ptr b2], decide (0 < (t.at_ i q).n))] := by
    unfold dropE; cases t.has i q <;> simp [firstE]
  rw [hE]
  refine refused_any (Blk.new _ 90 _) rfl (by omega) (clos_all ?_)
  simp only [List.forall_mem_cons]
  exact ⟨clo_none (h.quiet hc), hcl.quiet hc, clo_56 (h.quiet hc) i0 i1 (hb.chg hc (by simp)) (hr.chg hc (by simp)), fun _ h => by cases h⟩
set_option maxHeartbeats 1600000 in
set_option maxRecDepth 100000 in
theorem Drop_no {w : World} {c : Nat} {S : List Nat} {t : Tab Cx} {most : Int} (h : CtxAt w c S t most) {i q : Int} (i0 : -9223372036854775808 ≤ i) (i1 : i ≤ 9223372036854775807) (he : (dropE t i q == 0) = false) :
    Calls Tryz.prog 18 #[ptr c, .agg #[.int .i64 i, .int .u64 q]] w fun e w' => e = .returned (.int .i64 (dropE t i q)) ∧ Chg [] w w' := by
  have HG := Lib.hid (fun W (hW : Chg [] w W) => gone_any (h.quiet hW) i0 i1 (q := q))
  have HR := Lib.hid (fun W (hW : Chg [] w W) n m b1 b2 => dropc_refused (h.quiet hW) (n := n) (m := m) (b1 := b1) (b2 := b2) i0 i1 (q := q))
  obtain ⟨E, hE⟩ : ∃ E, E = dropE t i q := ⟨_, rfl⟩
  rw [← hE] at HR he ⊢
  clear h hE
  go_enter Tryz.func18, Tryz.ntmps18
  go_wp2
  go_region_held3 (fun w' => w'.cell? ⟨w.heap.size, 0, none⟩ = some (ptr c) ∧ w'.cell? ⟨w.heap.size + 1, 0, none⟩ = some (.int .i64 i) ∧ w'.cell? ⟨w.heap.size + 1, 1, none⟩ = some (.int .u64 q))
    (first | go_keep)
    (first
      | (go_at_call 55; refine (HG.out _ ((((Chg.refl _ _).alloc _).alloc _).drew)).mono ?_; rintro e w2 ⟨⟨n, m, rfl, hcl⟩, hc⟩; have HB2 := Lib.hid (ref_blk (w := w.alloc (.cells #[ptr c] 24)) (n := w.heap.size + 1) (by simp) ((Chg.refl [] _).drew) hc); have HB1 := Lib.hid (ptr_facts (w := w) rfl (((Chg.refl [] _).alloc _).drew) hc); have HC := Lib.hid ((((Chg.refl [] w).alloc _).alloc _).drew.then hc); have HCL := Lib.hid hcl; have k0 := HB1.out.cell 0; have k1 := HB2.out.cell 0; have k2 := HB2.out.cell 1; have lw2 := HB2.out.lt; clear hc hcl)
      | (go_at_call 48; refine (HR.out _ HC.out _ _ _ _ HCL.out HB1.out HB2.out _ rfl).mono ?_; rintro e w3 ⟨rfl, hc⟩; have HC3 := Lib.hid ((HC.out.alloc _).then hc); have hb1 := (HB1.out.alloc _).chg hc (by simp); have hb2 := (HB2.out.alloc _).chg hc (by simp); have j0 := hb1.cell 0; have j1 := hb2.cell 0; have j2 := hb2.cell 1; clear hc hb1 hb2))
  all_goals
    go_wp2
    go_ret
    exact ⟨rfl, HC3.out⟩
set_option maxHeartbeats 1600000 in
set_option maxRecDepth 100000 in
theorem Drop_yes {w : World} {c : Nat} {S : List Nat} {t : Tab Cx} {most : Int} (h : CtxAt w c S t most) {i q : Int} (i0 : -9223372036854775808 ≤ i) (i1 : i ≤ 9223372036854775807) (he : dropE t i q = 0)
    (hr : q + 1 < topG) :
    Calls Tryz.prog 18 #[ptr c, .agg #[.int .i64 i, .int .u64 q]] w fun e w' => e = .returned (.int .i64 0) ∧ CtxTurns c S (t.drop cx0 i.toNat q) most w w' := by
  have hq : t.has i q = true := by
    unfold dropE at he
    cases hh : t.has i q with
    | true => rfl
    | false => rw [hh] at he; simp at he
  have HG := Lib.hid (fun W (hW : Chg [] w W) => gone_any (h.quiet hW) i0 i1 (q := q))
  have HR := Lib.hid (fun W (hW : Chg [] w W) n m b1 b2 => dropc_refused (h.quiet hW) (n := n) (m := m) (b1 := b1) (b2 := b2) i0 i1 (q := q))
  obtain ⟨g, hB, hdr⟩ := drop_ctx h hq hr
  have HD := Lib.hid hdr
  have HBT := Lib.hid hB.tell
  rw [he] at HR
  clear h he hq hr hdr hB
  go_enter Tryz.func18, Tryz.ntmps18
  go_wp2
  go_region_held3 (fun w' => w'.cell? ⟨w.heap.size, 0, none⟩ = some (ptr c) ∧ w'.cell? ⟨w.heap.size + 1, 0, none⟩ = some (.int .i64 i) ∧ w'.cell? ⟨w.heap.size + 1, 1, none⟩ = some (.int .u64 q))
    (first | go_keep)
    (first
      | (go_at_call 55; refine (HG.out _ ((((Chg.refl _ _).alloc _).alloc _).drew)).mono ?_; rintro e w2 ⟨⟨n, m, rfl, hcl⟩, hc⟩; have HB2 := Lib.hid (ref_blk (w := w.alloc (.cells #[ptr c] 24)) (n := w.heap.size + 1) (by simp) ((Chg.refl [] _).drew) hc); have HB1 := Lib.hid (ptr_facts (w := w) rfl (((Chg.refl [] _).alloc _).drew) hc); have HC := Lib.hid ((((Chg.refl [] w).alloc _).alloc _).drew.then hc); have HCL := Lib.hid hcl; have k0 := HB1.out.cell 0; have k1 := HB2.out.cell 0; have k2 := HB2.out.cell 1; have lw2 := HB2.out.lt; clear hc hcl)
      | (go_at_call 48; refine (HR.out _ HC.out _ _ _ _ HCL.out HB1.out HB2.out _ rfl).mono ?_; rintro e w3 ⟨rfl, hc⟩; have HC3 := Lib.hid ((HC.out.alloc _).then hc); have hb1 := (HB1.out.alloc _).chg hc (by simp); have hb2 := (HB2.out.alloc _).chg hc (by simp); have j0 := hb1.cell 0; have j1 := hb2.cell 0; have j2 := hb2.cell 1; have c0 := (HBT.out _ HC3.out).1 0; have lc := (HBT.out _ HC3.out).2; clear hc hb1 hb2))
  all_goals
    go_wp2
    go_still_tail 5, (by kernel_rfl)
    (try change wpStill _ _ (World.drew _) _ _ _)
    (repeat still_step)
    (try refine wpStill_nil ?_)
    (try change wpList _ _ _ _ _ (World.drew _))
    go_wp2_with (go_at_call 58; refine (HD.out _ HC3.out.drew).mono ?_; rintro e w4 ⟨rfl, hT⟩; have HT := Lib.hid hT; clear hT)
    go_ret
    exact ⟨rfl, HT.out⟩
end Go.Proofs
end
section
namespace Go.Proofs
open Go.RowKit
set_option linter.unusedVariables false
set_option linter.unusedSimpArgs false
def splitE (t : Tab Cx) (i q am now : Int) : Int := if t.has i q then (if am == 0 || decide (1152921504606846976 < now) then 2 else if lackP (t.at_ i q) am now then 15 else if t.frees == 0 then 3 else 0) else 11
theorem split_refused {w : World} {c n m n1 n2 n3 n4 b1 b2 : Nat} {S : List Nat} {t : Tab Cx} {most i q am now : Int} (h : CtxAt w c S t most) (hcl : Clo w (cloGone n m) (!t.has i q)) (ha : Blk w b1 32 #[.int .u64 am]) (hn : Blk w b2 32 #[.int .u64 now])
    (hcl2 : Clo w (cloFour 98 n1 n2 n3 n4) (lackP (t.at_ i q) am now)) (o : Obj)
    (ho : o = .cells #[.int .i64 1, .func (.func 49) #[ptr c] #[], .int .i64 11, cloGone n m, .int .i64 2, .func (.func 64) #[] #[ptr b1, ptr b2], .int .i64 15, cloFour 98 n1 n2 n3 n4, .int .i64 3, .func (.func 52) #[ptr c] #[]] 90) :
    Calls Tryz.prog 48 #[.slice (some ⟨w.heap.size, 0, none⟩) 5 5] (w.alloc o) fun e w' => e = .returned (.int .i64 (splitE t i q am now)) ∧ Chg [] (w.alloc o) w' := by
  subst ho
  have hc := (Chg.refl [] w).alloc (.cells #[.int .i64 1, .func (.func 49) #[ptr c] #[], .int .i64 11, cloGone n m, .int .i64 2, .func (.func 64) #[] #[ptr b1, ptr b2], .int .i64 15, cloFour 98 n1 n2 n3 n4, .int .i64 3, .func (.func 52) #[ptr c] #[]] 90)
  have hE : splitE t i q am now = firstE [(1, .func (.func 49) #[ptr c] #[], false), (11, cloGone n m, !t.has i q), (2, .func (.func 64) #[] #[ptr b1, ptr b2], am == 0 || decide (1152921504606846976 < now)), (15, cloFour 98 n1 n2 n3 n4, lackP (t.at_ i q) am now), (3, .func (.func 52) #[ptr c] #[], t.frees == 0)] := by
    unfold splitE; cases t.has i q <;> simp [firstE]
  rw [hE]
  refine refused_any (Blk.new _ 90 _) rfl (by omega) (clos_all ?_)
  simp only [List.forall_mem_cons]
  exact ⟨clo_none (h.quiet hc), hcl.quiet hc, clo_split (ha.chg hc (by simp)) (hn.chg hc (by simp)), hcl2.quiet hc, clo_full (h.quiet hc), fun _ h => by cases h⟩
theorem CtxTurns.trans {a b d : World} {c : Nat} {S S1 : List Nat} {t2 : Tab Cx} {most : Int} (hs : ∀ k ∈ S1, k ∈ S ∨ a.heap.size ≤ k) (hc : Chg S a b) (h : CtxTurns c S1 t2 most b d) : CtxTurns c S t2 most a d := by
  obtain ⟨S2, h1, h2, h3⟩ := h
  refine ⟨S2, h1, fun k hk => ?_, hc.trans h3 hs⟩
  rcases h2 k hk with h | h
  · exact hs k h
  · exact .inr (Nat.le_trans hc.size h)
theorem splitE_0 {t : Tab Cx} {i q am now : Int} (h : splitE t i q am now = 0) : t.has i q = true ∧ am ≠ 0 ∧ (am ≤ thereP (t.at_ i q).l now ∧ am < (t.at_ i q).b) ∧ t.frees ≠ 0 := by
  unfold splitE at h
  cases hq : t.has i q with
  | false => rw [hq] at h; simp at h
  | true =>
    rw [hq] at h
    simp only [if_true] at h
    by_cases c1 : (am == 0 || decide (1152921504606846976 < now)) = true
    · rw [if_pos c1] at h; cases h
    · rw [if_neg c1] at h
      by_cases c2 : lackP (t.at_ i q) am now = true
      · rw [if_pos c2] at h; cases h
      · rw [if_neg c2] at h
        by_cases c3 : (t.frees == 0) = true
        · rw [if_pos c3] at h; cases h
        · refine ⟨rfl, ?_, ?_, ?_⟩
          · simp at c1; omega
          · unfold lackP at c2; simp at c2; omega
          · simpa using c3
theorem has_thing {t : Tab Cx} {i q : Int} (h : t.has i q = true) (x : Cx) : (t.thing i.toNat x).has i q = true ∧ (t.thing i.toNat x).at_ i q = x ∧ (t.thing i.toNat x).frees = t.frees ∧ (t.thing i.toNat x).takeAt = t.takeAt ∧ (t.thing i.toNat x).genAt (t.thing i.toNat x).takeAt = t.genAt t.takeAt := by
  obtain ⟨s, hl, he⟩ := has_iff.1 h
  obtain ⟨j0, hs, hth⟩ := live_iff.1 hl
  have hlt := (List.getElem?_eq_some_iff.1 hs).1
  have ht : t.thing i.toNat x = { t with spots := t.spots.set i.toNat { s with thing := x } } := by unfold Tab.thing; rw [hs]
  have hl' : (t.thing i.toNat x).live i = some { s with thing := x } := by
    rw [ht]; exact live_iff.2 ⟨j0, List.getElem?_set_self hlt, hth⟩
  have hk : (t.thing i.toNat x).takeAt = t.takeAt := by rw [ht]; unfold Tab.takeAt; simp
  refine ⟨has_iff.2 ⟨_, hl', he⟩, at_yes hl' he, by rw [ht]; unfold Tab.frees; simp, hk, ?_⟩
  rw [hk]
  unfold Tab.genAt
  rw [ht]
  by_cases e : t.takeAt = i.toNat
  · rw [e]; simp only; rw [List.getElem?_set_self hlt, hs]
  · simp only; rw [List.getElem?_set_ne (fun e' => e e'.symm)]
/-- Behind the pull: the table's Put. -/
theorem split_put {w w' : World} {c : Nat} {S : List Nat} {t : Tab Cx} {most i q : Int} {x : Cx} (hT : CtxTurns c S (t.thing i.toNat x) most w w') (i0 : -9223372036854775808 ≤ i) (i1 : i ≤ 9223372036854775807) (hq : t.has i q = true) (hf : t.frees ≠ 0) :
    ∃ g S1, Blk w' c 66 #[.pointer (some ⟨g, 0, none⟩), .int .i64 most] ∧ CtxAt w' c S1 (t.thing i.toNat x) most ∧ (∀ k ∈ S1, k ∈ S ∨ w.heap.size ≤ k) ∧ Chg S w w' ∧
      (∀ W, Chg [] w' W → Calls Tryz.prog 57 #[ptr c, .agg #[.int .i64 i, .int .u64 q]] W fun e v => e = .returned (.agg #[.int .u64 x.b, .int .u64 x.p, .slice x.a x.m x.c, .int .i64 x.n]) ∧ Chg [] W v) ∧
      (∀ W, Chg [] w' W → ∀ (b p n : Int) (a : Option Addr) (m cc : Nat) (l : List Rf), Rd W (.slice a m cc) l →
      Calls Tryz.prog 53 #[.pointer (some ⟨g, 0, none⟩), .agg #[.int .u64 b, .int .u64 p, .slice a m cc, .int .i64 n]] W fun e v => e = .returned (.tuple #[.agg #[.int .i64 (t.takeAt : Nat), .int .u64 (t.genAt t.takeAt)], .int .i64 0]) ∧ Chg S1 W v ∧ CtxTurns c S ((t.thing i.toNat x).put cx0 ⟨b, p, a, m, cc, n, l⟩) most w v) := by
  obtain ⟨S1, h1, h2, h3⟩ := hT
  obtain ⟨f1, f2, f3, f4, f5⟩ := has_thing hq x
  obtain ⟨g, hB, hput⟩ := put_ctx h1 (by rw [f3]; exact hf)
  refine ⟨g, S1, hB, h1, h2, h3, fun W hW => (by have := at_agg (h1.quiet hW) i q i0 i1; rw [f2] at this; exact this), fun W hW b p n a m cc l hl => ?_⟩
  refine (hput W hW b p n a m cc l hl).mono ?_
  rintro e v ⟨rfl, k1, k2⟩
  rw [f5, f4]
  exact ⟨rfl, k1, k2.trans h2 h3⟩
theorem split_boxes {w W w2 : World} {i q am now : Int} (hW : Chg [] ((((w.alloc (obRef i q)).alloc (obU am)).alloc (obU now)).alloc (obRef 0 0)) W) (hc : Chg [] W w2) :
    Blk w2 w.heap.size 34 #[.int .i64 i, .int .u64 q] ∧ Blk w2 (w.heap.size + 1) 32 #[.int .u64 am] ∧ Blk w2 (w.heap.size + 1 + 1) 32 #[.int .u64 now] ∧ Blk w2 (w.heap.size + 1 + 1 + 1) 34 #[.int .i64 0, .int .u64 0] ∧ Chg [] w w2 := by
  refine ⟨(((((Blk.new w 34 _).alloc _).alloc _).alloc _).chg hW (by simp)).chg hc (by simp), ((((Blk.at (w.alloc _) 32 _ (by simp)).alloc _).alloc _).chg hW (by simp)).chg hc (by simp), (((Blk.at ((w.alloc _).alloc _) 32 _ (by simp)).alloc _).chg hW (by simp)).chg hc (by simp), ((Blk.at (((w.alloc _).alloc _).alloc _) 34 _ (by simp)).chg hW (by simp)).chg hc (by simp), ?_⟩
  exact (((((Chg.refl [] w).alloc _).alloc _).alloc _).alloc _).then (hW.then hc)
set_option maxHeartbeats 3200000 in
set_option maxRecDepth 100000 in
theorem Split_no {w : World} {c : Nat} {S : List Nat} {t : Tab Cx} {most : Int} (h : CtxAt w c S t most) {i q am now : Int} (i0 : -9223372036854775808 ≤ i) (i1 : i ≤ 9223372036854775807) (hk : Ok (t.at_ i q).l) (hn : (t.at_ i q).l.length ≤ 100000) (he : (splitE t i q am now != 0) = true) :
    Calls Tryz.prog 25 #[ptr c, .agg #[.int .i64 i, .int .u64 q], .int .u64 am, .int .u64 now] w fun e w' => e = .returned (.tuple #[.agg #[.int .i64 0, .int .u64 0], .int .i64 (splitE t i q am now)]) ∧ Chg [] w w' := by
  have HG := Lib.hid (fun W (hW : Chg [] w W) => gone_any (h.quiet hW) i0 i1 (q := q))
  have HL := Lib.hid (fun W (hW : Chg [] w W) => lacks_any (h.quiet hW) i0 i1 (q := q) (am := am) (now := now) hk hn)
  have HR := Lib.hid (fun W (hW : Chg [] w W) n m n1 n2 n3 n4 b1 b2 => split_refused (h.quiet hW) (n := n) (m := m) (n1 := n1) (n2 := n2) (n3 := n3) (n4 := n4) (b1 := b1) (b2 := b2) (i := i) (q := q) (am := am) (now := now))
  obtain ⟨E, hE⟩ : ∃ E, E = splitE t i q am now := ⟨_, rfl⟩
  rw [← hE] at HR he ⊢
  clear h hE hk hn
  go_enter Tryz.func25, Tryz.ntmps25
  go_wp2
  refine wp_region_held_drew (S := fun w' => w'.cell? ⟨w.heap.size, 0, none⟩ = some (.int .i64 i) ∧ w'.cell? ⟨w.heap.size, 1, none⟩ = some (.int .u64 q) ∧ w'.cell? ⟨w.heap.size + 1, 0, none⟩ = some (.int .u64 am) ∧ w'.cell? ⟨w.heap.size + 1 + 1, 0, none⟩ = some (.int .u64 now)) (by kernel_rfl) ⟨by simp [go_sem], by simp [go_sem], by simp [go_sem], by simp [go_sem]⟩ (fun hHeld => ?_)
  simp only [List.setIfInBounds_toArray, List.size_toArray, List.length_cons, List.length_nil, Array.replicate]
  refine wpAnyH_take (i := 0) (v := ptr c) rfl (by kernel_rfl) (by kernel_rfl) (by kernel_rfl) (fun _ _ _ h => h) (Or.inl ⟨by rfl, fun w' hS => ?_⟩) hHeld ?_
  · obtain ⟨s0, s1, s2, s3⟩ := hS
    go_simp
  simp only [Act.put, List.setIfInBounds_toArray, List.set_cons_zero, List.set_cons_succ]
  refine wpAnyH_take (i := 1) (v := .func (.func 49) #[ptr c] #[]) rfl (by kernel_rfl) (by kernel_rfl) (by kernel_rfl) (fun _ _ _ h => h) (Or.inl ⟨by rfl, fun w' hS => ?_⟩) hHeld ?_
  · obtain ⟨s0, s1, s2, s3⟩ := hS
    go_simp
  simp only [Act.put, List.setIfInBounds_toArray, List.set_cons_zero, List.set_cons_succ]
  refine wpAnyH_take (i := 2) (v := .agg #[.int .i64 1, .func (.func 49) #[ptr c] #[]]) rfl (by kernel_rfl) (by kernel_rfl) (by kernel_rfl) (fun _ _ _ h => h) (Or.inl ⟨by rfl, fun w' hS => ?_⟩) hHeld ?_
  · obtain ⟨s0, s1, s2, s3⟩ := hS
    go_simp
  simp only [Act.put, List.setIfInBounds_toArray, List.set_cons_zero, List.set_cons_succ]
  refine wpAnyH_take (i := 3) (v := ptr c) rfl (by kernel_rfl) (by kernel_rfl) (by kernel_rfl) (fun _ _ _ h => h) (Or.inl ⟨by rfl, fun w' hS => ?_⟩) hHeld ?_
  · obtain ⟨s0, s1, s2, s3⟩ := hS
    go_simp
  simp only [Act.put, List.setIfInBounds_toArray, List.set_cons_zero, List.set_cons_succ]
  refine wpAnyH_take (i := 4) (v := .agg #[.int .i64 i, .int .u64 q]) rfl (by kernel_rfl) (by kernel_rfl) (by kernel_rfl) (fun _ _ _ h => h) (Or.inl ⟨by rfl, fun w' hS => ?_⟩) hHeld ?_
  · obtain ⟨s0, s1, s2, s3⟩ := hS
    go_simp
  simp only [Act.put, List.setIfInBounds_toArray, List.set_cons_zero, List.set_cons_succ]
  refine wpAnyH_take (i := 7) (v := .func (.func 64) #[] #[ptr (w.heap.size + 1), ptr (w.heap.size + 1 + 1)]) rfl (by kernel_rfl) (by kernel_rfl) (by kernel_rfl) (fun _ _ _ h => h) (Or.inl ⟨by rfl, fun w' hS => ?_⟩) hHeld ?_
  · obtain ⟨s0, s1, s2, s3⟩ := hS
    go_simp
  simp only [Act.put, List.setIfInBounds_toArray, List.set_cons_zero, List.set_cons_succ]
  refine wpAnyH_take (i := 8) (v := .agg #[.int .i64 2, .func (.func 64) #[] #[ptr (w.heap.size + 1), ptr (w.heap.size + 1 + 1)]]) rfl (by kernel_rfl) (by kernel_rfl) (by kernel_rfl) (fun _ _ _ h => h) (Or.inl ⟨by rfl, fun w' hS => ?_⟩) hHeld ?_
  · obtain ⟨s0, s1, s2, s3⟩ := hS
    go_simp
  simp only [Act.put, List.setIfInBounds_toArray, List.set_cons_zero, List.set_cons_succ]
  refine wpAnyH_take (i := 9) (v := ptr c) rfl (by kernel_rfl) (by kernel_rfl) (by kernel_rfl) (fun _ _ _ h => h) (Or.inl ⟨by rfl, fun w' hS => ?_⟩) hHeld ?_
  · obtain ⟨s0, s1, s2, s3⟩ := hS
    go_simp
  simp only [Act.put, List.setIfInBounds_toArray, List.set_cons_zero, List.set_cons_succ]
  refine wpAnyH_take (i := 10) (v := .agg #[.int .i64 i, .int .u64 q]) rfl (by kernel_rfl) (by kernel_rfl) (by kernel_rfl) (fun _ _ _ h => h) (Or.inl ⟨by rfl, fun w' hS => ?_⟩) hHeld ?_
  · obtain ⟨s0, s1, s2, s3⟩ := hS
    go_simp
  simp only [Act.put, List.setIfInBounds_toArray, List.set_cons_zero, List.set_cons_succ]
  refine wpAnyH_take (i := 11) (v := .int .u64 am) rfl (by kernel_rfl) (by kernel_rfl) (by kernel_rfl) (fun _ _ _ h => h) (Or.inl ⟨by rfl, fun w' hS => ?_⟩) hHeld ?_
  · obtain ⟨s0, s1, s2, s3⟩ := hS
    go_simp
  simp only [Act.put, List.setIfInBounds_toArray, List.set_cons_zero, List.set_cons_succ]
  refine wpAnyH_take (i := 12) (v := .int .u64 now) rfl (by kernel_rfl) (by kernel_rfl) (by kernel_rfl) (fun _ _ _ h => h) (Or.inl ⟨by rfl, fun w' hS => ?_⟩) hHeld ?_
  · obtain ⟨s0, s1, s2, s3⟩ := hS
    go_simp
  simp only [Act.put, List.setIfInBounds_toArray, List.set_cons_zero, List.set_cons_succ]
  refine wpAnyH_take (i := 15) (v := ptr c) rfl (by kernel_rfl) (by kernel_rfl) (by kernel_rfl) (fun _ _ _ h => h) (Or.inl ⟨by rfl, fun w' hS => ?_⟩) hHeld ?_
  · obtain ⟨s0, s1, s2, s3⟩ := hS
    go_simp
  simp only [Act.put, List.setIfInBounds_toArray, List.set_cons_zero, List.set_cons_succ]
  refine wpAnyH_take (i := 16) (v := .func (.func 52) #[ptr c] #[]) rfl (by kernel_rfl) (by kernel_rfl) (by kernel_rfl) (fun _ _ _ h => h) (Or.inl ⟨by rfl, fun w' hS => ?_⟩) hHeld ?_
  · obtain ⟨s0, s1, s2, s3⟩ := hS
    go_simp
  simp only [Act.put, List.setIfInBounds_toArray, List.set_cons_zero, List.set_cons_succ]
  refine wpAnyH_take (i := 17) (v := .agg #[.int .i64 3, .func (.func 52) #[ptr c] #[]]) rfl (by kernel_rfl) (by kernel_rfl) (by kernel_rfl) (fun _ _ _ h => h) (Or.inl ⟨by rfl, fun w' hS => ?_⟩) hHeld ?_
  · obtain ⟨s0, s1, s2, s3⟩ := hS
    go_simp
  simp only [Act.put, List.setIfInBounds_toArray, List.set_cons_zero, List.set_cons_succ]
  refine wpAnyH_ready (rs := [5]) (by kernel_rfl) (by simp) ?_
  refine AllReadyH.cons rfl (fun K hK => ?_) AllReadyH.nil
  go_simp
  refine (HG.out _ (((((Chg.refl _ _).alloc _).alloc _).alloc _).alloc _ |>.drew)).mono ?_
  rintro e w2 ⟨⟨n, m, rfl, hcl⟩, hc2⟩
  obtain ⟨B5, B6, B7, B8, HC⟩ := split_boxes (w := w) (i := i) (q := q) (am := am) (now := now) ((Chg.refl [] _).drew) hc2
  refine hK.out _ _ ⟨B5.cell 0, B5.cell 1, B6.cell 0, B7.cell 0⟩ (fun hHeld => ?_)
  clear hK K
  simp only [Act.put, List.setIfInBounds_toArray, List.set_cons_zero, List.set_cons_succ]
  refine wpAnyH_take (i := 6) (v := .agg #[.int .i64 11, .func (.func 93) #[] #[.pointer (some ⟨n, 0, none⟩), .pointer (some ⟨m, 0, none⟩)]]) rfl (by kernel_rfl) (by kernel_rfl) (by kernel_rfl) (fun _ _ _ h => h) (Or.inl ⟨by rfl, fun w' hS => ?_⟩) hHeld ?_
  · obtain ⟨s0, s1, s2, s3⟩ := hS
    go_simp
  simp only [Act.put, List.setIfInBounds_toArray, List.set_cons_zero, List.set_cons_succ]
  refine wpAnyH_ready (rs := [13]) (by kernel_rfl) (by simp) ?_
  refine AllReadyH.cons rfl (fun K hK => ?_) AllReadyH.nil
  go_simp
  refine (HL.out _ HC).mono ?_
  rintro e w3 ⟨⟨n1, n2, n3, n4, rfl, hcl2⟩, hc3⟩
  have hc23 := hc2.then hc3
  have hcl' := hcl.quiet hc3
  clear B5 B6 B7 B8 HC hHeld
  obtain ⟨B5, B6, B7, B8, HC⟩ := split_boxes (w := w) (i := i) (q := q) (am := am) (now := now) ((Chg.refl [] _).drew) hc23
  refine hK.out _ _ ⟨B5.cell 0, B5.cell 1, B6.cell 0, B7.cell 0⟩ (fun hHeld => ?_)
  clear hK K
  simp only [Act.put, List.setIfInBounds_toArray, List.set_cons_zero, List.set_cons_succ]
  refine wpAnyH_take (i := 14) (v := .agg #[.int .i64 15, .func (.func 98) #[] #[.pointer (some ⟨n1, 0, none⟩), .pointer (some ⟨n2, 0, none⟩), .pointer (some ⟨n3, 0, none⟩), .pointer (some ⟨n4, 0, none⟩)]]) rfl (by kernel_rfl) (by kernel_rfl) (by kernel_rfl) (fun _ _ _ h => h) (Or.inl ⟨by rfl, fun w' hS => ?_⟩) hHeld ?_
  · obtain ⟨s0, s1, s2, s3⟩ := hS
    go_simp
  simp only [Act.put, List.setIfInBounds_toArray, List.set_cons_zero, List.set_cons_succ]
  refine wpAnyH_ready (rs := [18]) (by kernel_rfl) (by simp) ?_
  refine AllReadyH.cons rfl (fun K hK => ?_) AllReadyH.nil
  go_simp

  refine hK.out _ _ ⟨(B5.alloc _).cell 0, (B5.alloc _).cell 1, (B6.alloc _).cell 0, (B7.alloc _).cell 0⟩ (fun hHeld => ?_)
  clear hK K
  simp only [Act.put, List.setIfInBounds_toArray, List.set_cons_zero, List.set_cons_succ]
  refine wpAnyH_ready (rs := [19]) (by kernel_rfl) (by simp) ?_
  refine AllReadyH.cons rfl (fun K hK => ?_) AllReadyH.nil
  go_simp
  refine (HR.out _ HC n m n1 n2 n3 n4 (w.heap.size + 1) (w.heap.size + 1 + 1) hcl' B6 B7 hcl2 _ rfl).mono ?_
  rintro e w4 ⟨rfl, hc4⟩
  have hc24 := (hc23.alloc _).then hc4
  clear B5 B6 B7 B8 HC hHeld
  obtain ⟨B5, B6, B7, B8, HC⟩ := split_boxes (w := w) (i := i) (q := q) (am := am) (now := now) ((Chg.refl [] _).drew) hc24
  refine hK.out _ _ ⟨B5.cell 0, B5.cell 1, B6.cell 0, B7.cell 0⟩ (fun hHeld => ?_)
  clear hK K
  simp only [Act.put, List.setIfInBounds_toArray, List.set_cons_zero, List.set_cons_succ]
  refine wpAnyH_take (i := 20) (v := .int .i64 E) rfl (by kernel_rfl) (by kernel_rfl) (by kernel_rfl) (fun _ _ _ h => h) (Or.inl ⟨by rfl, fun w' hS => ?_⟩) hHeld ?_
  · obtain ⟨s0, s1, s2, s3⟩ := hS
    go_simp
  simp only [Act.put, List.setIfInBounds_toArray, List.set_cons_zero, List.set_cons_succ]
  refine wpAnyH_done (by kernel_rfl) ?_ _
  have z0 := B8.cell 0
  have z1 := B8.cell 1
  have zf := B8.frozen
  have hz := B8.lt
  have HC9 := Lib.hid HC
  clear B5 B6 B7 B8 HC hHeld hc2 hc3 hc23 hc24 hc4 hcl hcl' hcl2
  go_wp2
  refine bodyPost_ret (v := .tuple #[.agg #[.int .i64 0, .int .u64 0], .int .i64 E]) ?_ rfl ⟨rfl, by repeat' (first | with_reducible exact HC9.out | with_reducible apply Chg.alloc | with_reducible apply Chg.setCell | (with_reducible refine Or.inr ?_; dsimp only; omega))⟩
  simp [results, Tryz.results25, go_sem, hz, z0, z1]
set_option maxHeartbeats 3200000 in
set_option maxRecDepth 100000 in
theorem Split_yes {w : World} {c : Nat} {S : List Nat} {t : Tab Cx} {most : Int} (h : CtxAt w c S t most) {i q am now : Int} (i0 : -9223372036854775808 ≤ i) (i1 : i ≤ 9223372036854775807) (hk : Ok (t.at_ i q).l) (hn : (t.at_ i q).l.length ≤ 100000) (he : splitE t i q am now = 0) (hm : U64 am) (b1 : (t.at_ i q).b < 18446744073709551616) :
    Calls Tryz.prog 25 #[ptr c, .agg #[.int .i64 i, .int .u64 q], .int .u64 am, .int .u64 now] w fun e w' => ∃ A m cc A2 c2, e = .returned (.tuple #[.agg #[.int .i64 (t.takeAt : Nat), .int .u64 (t.genAt t.takeAt)], .int .i64 0]) ∧
      CtxTurns c S ((t.thing i.toNat ⟨(t.at_ i q).b - am, (t.at_ i q).p, A, m, cc, (t.at_ i q).n, (pullP (t.at_ i q).l now am).1⟩).put cx0 ⟨am, (t.at_ i q).p, A2, 1, c2, 0, [(am, now)]⟩) most w w' := by
  obtain ⟨hq, ham, hlk, hfr⟩ := splitE_0 he
  have HG := Lib.hid (fun W (hW : Chg [] w W) => gone_any (h.quiet hW) i0 i1 (q := q))
  have HL := Lib.hid (fun W (hW : Chg [] w W) => lacks_any (h.quiet hW) i0 i1 (q := q) (am := am) (now := now) hk hn)
  have HR := Lib.hid (fun W (hW : Chg [] w W) n m n1 n2 n3 n4 b1 b2 => split_refused (h.quiet hW) (n := n) (m := m) (n1 := n1) (n2 := n2) (n3 := n3) (n4 := n4) (b1 := b1) (b2 := b2) (i := i) (q := q) (am := am) (now := now))
  rw [he] at HR
  have HPU := Lib.hid (fun W (hW : Chg [] w W) => pull_ctx (h.quiet hW) i0 i1 hq (am := am) (now := now) hk hn hm (by omega) (by have := hm.1; omega))
  have HX := Lib.hid h.box
  have HCS := Lib.hid h.cS
  have HPUT := Lib.hid (fun (W W' : World) (x : Cx) (hT : CtxTurns c S (t.thing i.toNat x) most W W') => split_put hT i0 i1 hq hfr)
  have hlc := h.lt c (by simp)
  have HF := Lib.hid (fun W => fresh_any W am (t.at_ i q).p now ham)
  obtain ⟨ti, hti⟩ : ∃ ti, ti = ((t.takeAt : Nat) : Int) := ⟨_, rfl⟩
  obtain ⟨tq, htq⟩ : ∃ tq, tq = t.genAt t.takeAt := ⟨_, rfl⟩
  rw [← hti, ← htq] at HPUT ⊢
  obtain ⟨per, hper⟩ : ∃ per, per = (t.at_ i q).p := ⟨_, rfl⟩
  clear h hk hn he hq ham hlk hfr hm b1 hti htq
  go_enter Tryz.func25, Tryz.ntmps25
  go_wp2
  refine wp_region_held_drew (S := fun w' => w'.cell? ⟨w.heap.size, 0, none⟩ = some (.int .i64 i) ∧ w'.cell? ⟨w.heap.size, 1, none⟩ = some (.int .u64 q) ∧ w'.cell? ⟨w.heap.size + 1, 0, none⟩ = some (.int .u64 am) ∧ w'.cell? ⟨w.heap.size + 1 + 1, 0, none⟩ = some (.int .u64 now)) (by kernel_rfl) ⟨by simp [go_sem], by simp [go_sem], by simp [go_sem], by simp [go_sem]⟩ (fun hHeld => ?_)
  simp only [List.setIfInBounds_toArray, List.size_toArray, List.length_cons, List.length_nil, Array.replicate]
  refine wpAnyH_take (i := 0) (v := ptr c) rfl (by kernel_rfl) (by kernel_rfl) (by kernel_rfl) (fun _ _ _ h => h) (Or.inl ⟨by rfl, fun w' hS => ?_⟩) hHeld ?_
  · obtain ⟨s0, s1, s2, s3⟩ := hS
    go_simp
  simp only [Act.put, List.setIfInBounds_toArray, List.set_cons_zero, List.set_cons_succ]
  refine wpAnyH_take (i := 1) (v := .func (.func 49) #[ptr c] #[]) rfl (by kernel_rfl) (by kernel_rfl) (by kernel_rfl) (fun _ _ _ h => h) (Or.inl ⟨by rfl, fun w' hS => ?_⟩) hHeld ?_
  · obtain ⟨s0, s1, s2, s3⟩ := hS
    go_simp
  simp only [Act.put, List.setIfInBounds_toArray, List.set_cons_zero, List.set_cons_succ]
  refine wpAnyH_take (i := 2) (v := .agg #[.int .i64 1, .func (.func 49) #[ptr c] #[]]) rfl (by kernel_rfl) (by kernel_rfl) (by kernel_rfl) (fun _ _ _ h => h) (Or.inl ⟨by rfl, fun w' hS => ?_⟩) hHeld ?_
  · obtain ⟨s0, s1, s2, s3⟩ := hS
    go_simp
  simp only [Act.put, List.setIfInBounds_toArray, List.set_cons_zero, List.set_cons_succ]
  refine wpAnyH_take (i := 3) (v := ptr c) rfl (by kernel_rfl) (by kernel_rfl) (by kernel_rfl) (fun _ _ _ h => h) (Or.inl ⟨by rfl, fun w' hS => ?_⟩) hHeld ?_
  · obtain ⟨s0, s1, s2, s3⟩ := hS
    go_simp
  simp only [Act.put, List.setIfInBounds_toArray, List.set_cons_zero, List.set_cons_succ]
  refine wpAnyH_take (i := 4) (v := .agg #[.int .i64 i, .int .u64 q]) rfl (by kernel_rfl) (by kernel_rfl) (by kernel_rfl) (fun _ _ _ h => h) (Or.inl ⟨by rfl, fun w' hS => ?_⟩) hHeld ?_
  · obtain ⟨s0, s1, s2, s3⟩ := hS
    go_simp
  simp only [Act.put, List.setIfInBounds_toArray, List.set_cons_zero, List.set_cons_succ]
  refine wpAnyH_take (i := 7) (v := .func (.func 64) #[] #[ptr (w.heap.size + 1), ptr (w.heap.size + 1 + 1)]) rfl (by kernel_rfl) (by kernel_rfl) (by kernel_rfl) (fun _ _ _ h => h) (Or.inl ⟨by rfl, fun w' hS => ?_⟩) hHeld ?_
  · obtain ⟨s0, s1, s2, s3⟩ := hS
    go_simp
  simp only [Act.put, List.setIfInBounds_toArray, List.set_cons_zero, List.set_cons_succ]
  refine wpAnyH_take (i := 8) (v := .agg #[.int .i64 2, .func (.func 64) #[] #[ptr (w.heap.size + 1), ptr (w.heap.size + 1 + 1)]]) rfl (by kernel_rfl) (by kernel_rfl) (by kernel_rfl) (fun _ _ _ h => h) (Or.inl ⟨by rfl, fun w' hS => ?_⟩) hHeld ?_
  · obtain ⟨s0, s1, s2, s3⟩ := hS
    go_simp
  simp only [Act.put, List.setIfInBounds_toArray, List.set_cons_zero, List.set_cons_succ]
  refine wpAnyH_take (i := 9) (v := ptr c) rfl (by kernel_rfl) (by kernel_rfl) (by kernel_rfl) (fun _ _ _ h => h) (Or.inl ⟨by rfl, fun w' hS => ?_⟩) hHeld ?_
  · obtain ⟨s0, s1, s2, s3⟩ := hS
    go_simp
  simp only [Act.put, List.setIfInBounds_toArray, List.set_cons_zero, List.set_cons_succ]
  refine wpAnyH_take (i := 10) (v := .agg #[.int .i64 i, .int .u64 q]) rfl (by kernel_rfl) (by kernel_rfl) (by kernel_rfl) (fun _ _ _ h => h) (Or.inl ⟨by rfl, fun w' hS => ?_⟩) hHeld ?_
  · obtain ⟨s0, s1, s2, s3⟩ := hS
    go_simp
  simp only [Act.put, List.setIfInBounds_toArray, List.set_cons_zero, List.set_cons_succ]
  refine wpAnyH_take (i := 11) (v := .int .u64 am) rfl (by kernel_rfl) (by kernel_rfl) (by kernel_rfl) (fun _ _ _ h => h) (Or.inl ⟨by rfl, fun w' hS => ?_⟩) hHeld ?_
  · obtain ⟨s0, s1, s2, s3⟩ := hS
    go_simp
  simp only [Act.put, List.setIfInBounds_toArray, List.set_cons_zero, List.set_cons_succ]
  refine wpAnyH_take (i := 12) (v := .int .u64 now) rfl (by kernel_rfl) (by kernel_rfl) (by kernel_rfl) (fun _ _ _ h => h) (Or.inl ⟨by rfl, fun w' hS => ?_⟩) hHeld ?_
  · obtain ⟨s0, s1, s2, s3⟩ := hS
    go_simp
  simp only [Act.put, List.setIfInBounds_toArray, List.set_cons_zero, List.set_cons_succ]
  refine wpAnyH_take (i := 15) (v := ptr c) rfl (by kernel_rfl) (by kernel_rfl) (by kernel_rfl) (fun _ _ _ h => h) (Or.inl ⟨by rfl, fun w' hS => ?_⟩) hHeld ?_
  · obtain ⟨s0, s1, s2, s3⟩ := hS
    go_simp
  simp only [Act.put, List.setIfInBounds_toArray, List.set_cons_zero, List.set_cons_succ]
  refine wpAnyH_take (i := 16) (v := .func (.func 52) #[ptr c] #[]) rfl (by kernel_rfl) (by kernel_rfl) (by kernel_rfl) (fun _ _ _ h => h) (Or.inl ⟨by rfl, fun w' hS => ?_⟩) hHeld ?_
  · obtain ⟨s0, s1, s2, s3⟩ := hS
    go_simp
  simp only [Act.put, List.setIfInBounds_toArray, List.set_cons_zero, List.set_cons_succ]
  refine wpAnyH_take (i := 17) (v := .agg #[.int .i64 3, .func (.func 52) #[ptr c] #[]]) rfl (by kernel_rfl) (by kernel_rfl) (by kernel_rfl) (fun _ _ _ h => h) (Or.inl ⟨by rfl, fun w' hS => ?_⟩) hHeld ?_
  · obtain ⟨s0, s1, s2, s3⟩ := hS
    go_simp
  simp only [Act.put, List.setIfInBounds_toArray, List.set_cons_zero, List.set_cons_succ]
  refine wpAnyH_ready (rs := [5]) (by kernel_rfl) (by simp) ?_
  refine AllReadyH.cons rfl (fun K hK => ?_) AllReadyH.nil
  go_simp
  refine (HG.out _ (((((Chg.refl _ _).alloc _).alloc _).alloc _).alloc _ |>.drew)).mono ?_
  rintro e w2 ⟨⟨n, m, rfl, hcl⟩, hc2⟩
  obtain ⟨B5, B6, B7, B8, HC⟩ := split_boxes (w := w) (i := i) (q := q) (am := am) (now := now) ((Chg.refl [] _).drew) hc2
  refine hK.out _ _ ⟨B5.cell 0, B5.cell 1, B6.cell 0, B7.cell 0⟩ (fun hHeld => ?_)
  clear hK K
  simp only [Act.put, List.setIfInBounds_toArray, List.set_cons_zero, List.set_cons_succ]
  refine wpAnyH_take (i := 6) (v := .agg #[.int .i64 11, .func (.func 93) #[] #[.pointer (some ⟨n, 0, none⟩), .pointer (some ⟨m, 0, none⟩)]]) rfl (by kernel_rfl) (by kernel_rfl) (by kernel_rfl) (fun _ _ _ h => h) (Or.inl ⟨by rfl, fun w' hS => ?_⟩) hHeld ?_
  · obtain ⟨s0, s1, s2, s3⟩ := hS
    go_simp
  simp only [Act.put, List.setIfInBounds_toArray, List.set_cons_zero, List.set_cons_succ]
  refine wpAnyH_ready (rs := [13]) (by kernel_rfl) (by simp) ?_
  refine AllReadyH.cons rfl (fun K hK => ?_) AllReadyH.nil
  go_simp
  refine (HL.out _ HC).mono ?_
  rintro e w3 ⟨⟨n1, n2, n3, n4, rfl, hcl2⟩, hc3⟩
  have hc23 := hc2.then hc3
  have hcl' := hcl.quiet hc3
  clear B5 B6 B7 B8 HC hHeld
  obtain ⟨B5, B6, B7, B8, HC⟩ := split_boxes (w := w) (i := i) (q := q) (am := am) (now := now) ((Chg.refl [] _).drew) hc23
  refine hK.out _ _ ⟨B5.cell 0, B5.cell 1, B6.cell 0, B7.cell 0⟩ (fun hHeld => ?_)
  clear hK K
  simp only [Act.put, List.setIfInBounds_toArray, List.set_cons_zero, List.set_cons_succ]
  refine wpAnyH_take (i := 14) (v := .agg #[.int .i64 15, .func (.func 98) #[] #[.pointer (some ⟨n1, 0, none⟩), .pointer (some ⟨n2, 0, none⟩), .pointer (some ⟨n3, 0, none⟩), .pointer (some ⟨n4, 0, none⟩)]]) rfl (by kernel_rfl) (by kernel_rfl) (by kernel_rfl) (fun _ _ _ h => h) (Or.inl ⟨by rfl, fun w' hS => ?_⟩) hHeld ?_
  · obtain ⟨s0, s1, s2, s3⟩ := hS
    go_simp
  simp only [Act.put, List.setIfInBounds_toArray, List.set_cons_zero, List.set_cons_succ]
  refine wpAnyH_ready (rs := [18]) (by kernel_rfl) (by simp) ?_
  refine AllReadyH.cons rfl (fun K hK => ?_) AllReadyH.nil
  go_simp

  refine hK.out _ _ ⟨(B5.alloc _).cell 0, (B5.alloc _).cell 1, (B6.alloc _).cell 0, (B7.alloc _).cell 0⟩ (fun hHeld => ?_)
  clear hK K
  simp only [Act.put, List.setIfInBounds_toArray, List.set_cons_zero, List.set_cons_succ]
  refine wpAnyH_ready (rs := [19]) (by kernel_rfl) (by simp) ?_
  refine AllReadyH.cons rfl (fun K hK => ?_) AllReadyH.nil
  go_simp
  refine (HR.out _ HC n m n1 n2 n3 n4 (w.heap.size + 1) (w.heap.size + 1 + 1) hcl' B6 B7 hcl2 _ rfl).mono ?_
  rintro e w4 ⟨rfl, hc4⟩
  have hc24 := (hc23.alloc _).then hc4
  clear B5 B6 B7 B8 HC hHeld
  obtain ⟨B5, B6, B7, B8, HC⟩ := split_boxes (w := w) (i := i) (q := q) (am := am) (now := now) ((Chg.refl [] _).drew) hc24
  refine hK.out _ _ ⟨B5.cell 0, B5.cell 1, B6.cell 0, B7.cell 0⟩ (fun hHeld => ?_)
  clear hK K
  simp only [Act.put, List.setIfInBounds_toArray, List.set_cons_zero, List.set_cons_succ]
  refine wpAnyH_take (i := 20) (v := .int .i64 0) rfl (by kernel_rfl) (by kernel_rfl) (by kernel_rfl) (fun _ _ _ h => h) (Or.inl ⟨by rfl, fun w' hS => ?_⟩) hHeld ?_
  · obtain ⟨s0, s1, s2, s3⟩ := hS
    go_simp
  simp only [Act.put, List.setIfInBounds_toArray, List.set_cons_zero, List.set_cons_succ]
  refine wpAnyH_done (by kernel_rfl) ?_ _
  have d0 := B5.cell 0
  have d1 := B5.cell 1
  have d2 := B6.cell 0
  have d3 := B7.cell 0
  have HB5 := Lib.hid B5
  have HB6 := Lib.hid B6
  have HB7 := Lib.hid B7
  have HB8 := Lib.hid B8
  have hlb := B8.lt
  have HC9 := Lib.hid HC
  clear B5 B6 B7 B8 HC hHeld hc2 hc3 hc23 hc24 hc4 hcl hcl' hcl2
  have hn1 : ¬ (w.heap.size + 1 + 1 + 1 = c) := by omega
  have hn2 : ¬ (w.heap.size + 1 + 1 + 1 = w.heap.size) := by omega
  have hn3 : ¬ (w.heap.size + 1 + 1 = w.heap.size) := by omega
  go_wp2_with (go_at_call 66; refine (HPU.out _ HC9.out).mono ?_; rintro e w5 ⟨rfl, A, m', cc, hT⟩; obtain ⟨g, S1, hB, hX5, hsub, hS5, hat, hput⟩ := HPUT.out _ _ _ hT; have HX1 := Lib.hid (fun k (hk : w.heap.size ≤ k) (hk4 : k < w4.heap.size) (hm : k ∈ S1) => ((hsub k hm).elim (HX.out k hk) (fun h => by omega))); have HCS1 := Lib.hid hX5.cS; have hz4 : w.heap.size + 1 + 1 + 1 < w5.heap.size := (by have := hS5.size; omega); have c0 := hB.cell 0; have HE5 := Lib.hid (HB5.out.chg hS5 (HX.out _ (by omega))); have HE6 := Lib.hid (HB6.out.chg hS5 (HX.out _ (by omega))); have HE7 := Lib.hid (HB7.out.chg hS5 (HX.out _ (by omega))); have HE8 := Lib.hid (HB8.out.chg hS5 (HX.out _ (by omega))); have HEC := Lib.hid hB; have r0 := HE5.out.cell 0; have r1 := HE5.out.cell 1; have r2 := HE6.out.cell 0; have r3 := HE7.out.cell 0; have HAT := Lib.hid hat; have HPT := Lib.hid hput; have HT5 := Lib.hid (hT.earlier HC9.out); clear hX5 hsub hS5 hat hput hB hT)
  have hfl := fldP ((t.at_ i q).b - am) (t.at_ i q).p (t.at_ i q).n A m' cc
  go_region_held3 (fun w' => w'.cell? ⟨c, 0, none⟩ = some (.pointer (some ⟨g, 0, none⟩)) ∧ w'.cell? ⟨w.heap.size, 0, none⟩ = some (.int .i64 i) ∧ w'.cell? ⟨w.heap.size, 1, none⟩ = some (.int .u64 q) ∧ w'.cell? ⟨w.heap.size + 1, 0, none⟩ = some (.int .u64 am) ∧ w'.cell? ⟨w.heap.size + 1 + 1, 0, none⟩ = some (.int .u64 now))
    (first | go_keep)
    (first
      | (go_at_call 57; refine (HAT.out _ ((Chg.refl _ _).drew)).mono ?_; rintro e w6 ⟨rfl, hc⟩; have HC6 := Lib.hid (((Chg.refl [] w5).drew).then hc); have k0 := (HEC.out.chg HC6.out (by simp)).cell 0; have k1 := (HE5.out.chg HC6.out (by simp)).cell 0; have k2 := (HE5.out.chg HC6.out (by simp)).cell 1; have k3 := (HE6.out.chg HC6.out (by simp)).cell 0; have k4 := (HE7.out.chg HC6.out (by simp)).cell 0; clear hc)
      | (go_at_call 54; refine (HF.out _).mono ?_; rintro e w7 ⟨A2, c2, rfl, hR, hc⟩; have HC7 := Lib.hid (HC6.out.then hc); have HR7 := Lib.hid hR; have l0 := (HEC.out.chg HC7.out (by simp)).cell 0; have l1 := (HE5.out.chg HC7.out (by simp)).cell 0; have l2 := (HE5.out.chg HC7.out (by simp)).cell 1; have l3 := (HE6.out.chg HC7.out (by simp)).cell 0; have l4 := (HE7.out.chg HC7.out (by simp)).cell 0; clear hc hR)
      | (go_at_call 53; refine (HPT.out _ HC7.out _ _ _ _ _ _ _ HR7.out).mono ?_; rintro e w8 ⟨rfl, hs, hT⟩; have HT := Lib.hid (hT.earlier HC9.out); have HB8' := Lib.hid ((HE8.out.chg HC7.out (by simp)).chg hs (HX1.out _ (by omega) (by omega))); have j0 := ((HEC.out.chg HC7.out (by simp)).chg hs HCS1.out).cell 0; have j1 := ((HE5.out.chg HC7.out (by simp)).chg hs (HX1.out _ (by omega) (by omega))).cell 0; have j2 := ((HE5.out.chg HC7.out (by simp)).chg hs (HX1.out _ (by omega) (by omega))).cell 1; have j3 := ((HE6.out.chg HC7.out (by simp)).chg hs (HX1.out _ (by omega) (by omega))).cell 0; have j4 := ((HE7.out.chg HC7.out (by simp)).chg hs (HX1.out _ (by omega) (by omega))).cell 0; have j5 := HB8'.out.cell 0; have j6 := HB8'.out.cell 1; have j7 := HB8'.out.frozen; clear hs hT))
  all_goals
    go_wp2
    refine bodyPost_ret (v := .tuple #[.agg #[.int .i64 ti, .int .u64 tq], .int .i64 0]) ?_ rfl ⟨A, m', cc, A2, c2, rfl, ?_⟩
    · simp [results, Tryz.results25, go_sem, j5, j6]
    · exact HT.out.box HB8'.out (by omega) (((Chg.refl _ _).setCell (p := ⟨w.heap.size + 1 + 1 + 1, 0, none⟩) (.inl (by simp)) _).setCell (p := ⟨w.heap.size + 1 + 1 + 1, 1, none⟩) (.inl (by simp)) _)
end Go.Proofs
end
