/-
  What is answered of no domains, and of stale ones. (A closed sentence.)
-/
import Derived.Test.YtgelpbmjgebnhaaM4
import Derived.Test.YtgelpbmjgebnhaaM8
import Derived.Test.YtgelpbmjgebnhaaM11
import Derived.Test.YtgelpbmjgebnhaaRows
import Derived.WalkKit
import Derived.Below
import Derived.ChangeSame
import Derived.ProofKit
import Derived.OpenShut
section
namespace Go.Proofs
open Go.RowKit Go.Shelf
set_option linter.unusedVariables false
set_option linter.unusedSimpArgs false
/-! ### Domains that are not there, and zero ones -/
def NilD (w : World) (v : Value) : Prop := v = .pointer none ∨ ∃ z, v = ptr z ∧ Blk w z 110 #[.pointer none]
theorem NilD.chg {w w' : World} {v : Value} (h : NilD w v) (hc : Chg [] w w') : NilD w' v := by
  rcases h with h | ⟨z, h1, h2⟩
  · exact .inl h
  · exact .inr ⟨z, h1, h2.chg hc (by simp)⟩
theorem nplaces {w : World} {v : Value} (h : NilD w v) : Calls Try.prog 50 #[v] w fun e w' => e = .returned (.pointer none) ∧ w = w' := by
  rcases h with rfl | ⟨z, rfl, hB⟩
  · exact places_nil w
  · have c0 : w.cell? ⟨z, 0, none⟩ = some (.pointer none) := hB.cell 0
    clear hB
    go_enter Try.func50, Try.ntmps50
    go_wp2
    go_ret
    exact ⟨rfl, rfl⟩
theorem nnone {w : World} {v : Value} (h : NilD w v) : Calls Try.prog 61 #[v] w fun e w' => e = .returned (.bool true) ∧ w = w' := by
  have HP := Lib.hid (nplaces h)
  clear h
  go_enter Try.func61, Try.ntmps61
  go_wp2_with (go_at_call 50; refine HP.out.mono ?_; rintro e w' ⟨rfl, rfl⟩)
  go_ret
  exact ⟨rfl, rfl⟩
theorem tnone (w : World) : Calls Try.prog 77 #[.pointer none] w fun e w' => e = .returned (.bool true) ∧ w = w' := by
  go_enter Try.func77, Try.ntmps77
  go_wp2
  go_ret
  exact ⟨rfl, rfl⟩
theorem nfind (w : World) (i q : Int) : Calls Try.prog 74 #[.pointer none, .agg #[.int .i64 i, .int .u64 q]] w fun e w' => e = .returned (.tuple #[.pointer none, .int .i64 1]) ∧ Chg [] w w' := by
  have HT := Lib.hid tnone
  go_enter Try.func74, Try.ntmps74
  go_wp2_with (go_at_call 77; refine (HT.out _).mono ?_; rintro e w' ⟨rfl, rfl⟩)
  exact bodyPost_ret (v := .tuple #[.pointer none, .int .i64 1]) (by simp [results, Try.results74, go_sem]) rfl ⟨rfl, ((Chg.refl [] w).alloc _)⟩
set_option maxRecDepth 100000 in
theorem naget (w : World) (i q : Int) : Calls Try.prog 52 #[.pointer none, .agg #[.int .i64 i, .int .u64 q]] w fun e w' => e = .returned (.tuple #[dm0.val, .int .i64 1]) ∧ Chg [] w w' := by
  have HA := fun W => nfind W i q
  go_enter Try.func52, Try.ntmps52
  go_wp2_with (go_at_call 74; refine (HA _).mono ?_; rintro e w1 ⟨rfl, hc1⟩; have hz : w.heap.size + 1 < w1.heap.size := (by have := hc1.size; simp at this; omega); have HC := Lib.hid (((Chg.refl [] w).alloc _).alloc _ |>.then hc1); have hB1 := (box2 rfl hc1); have k0 := hB1.cell 0; have k1 := hB1.cell 1; have k2 := hB1.cell 2; have k3 := hB1.cell 3; have k4 := hB1.cell 4; have k5 := hB1.cell 5; have k6 := hB1.cell 6; have k7 := hB1.cell 7; have k8 := hB1.cell 8; have k9 := hB1.cell 9; have k10 := hB1.cell 10; have f0 := hB1.frozen; clear hB1 hc1)
  refine bodyPost_ret (v := .tuple #[dm0.val, .int .i64 1]) ?_ rfl ⟨rfl, (chg_box HC.out 0 dm0).alloc _⟩
  simp [results, Try.results52, go_sem, dm0, Dm.val, hz, k0, k1, k2, k3, k4, k5, k6, k7, k8, k9, k10]
section
variable {w : World} {v : Value}
set_option maxRecDepth 100000 in
theorem nget (h : NilD w v) (i q : Int) : Calls Try.prog 27 #[v, .agg #[.int .i64 i, .int .u64 q]] w fun e w' => e = .returned (.tuple #[dm0.val, .int .i64 1]) ∧ Chg [] w w' := by
  have HP := Lib.hid (fun W (hW : Chg [] w W) => nplaces (h.chg hW))
  have HG := Lib.hid (fun W => naget W i q)
  obtain ⟨x, hx⟩ : ∃ x, x = dm0 := ⟨_, rfl⟩
  rw [← hx] at HG ⊢
  clear hx h
  go_enter Try.func27, Try.ntmps27
  go_wp2
  go_region_held3 (fun w' => w'.cell? ⟨w.heap.size, 0, none⟩ = some (.int .i64 i) ∧ w'.cell? ⟨w.heap.size, 1, none⟩ = some (.int .u64 q))
    (first | go_keep)
    (first
      | (go_at_call 50; refine (HP.out _ ((((Chg.refl _ _).alloc _).alloc _).drew)).mono ?_; rintro e w1 ⟨rfl, rfl⟩)
      | (go_at_call 52; refine (HG.out _).mono ?_; rintro e w2 ⟨rfl, hc⟩; obtain ⟨_, b0, b1⟩ := ref_facts (w := w) rfl (((Chg.refl [] _).alloc _).drew) hc; obtain ⟨hz, r0, r1, r2, r3, r4, r5, r6, r7, r8, r9, r10, rf⟩ := dm_facts (w := w.alloc (obRef i q)) (n := w.heap.size + 1) (by simp) ((Chg.refl [] _).drew) hc; have HC := Lib.hid ((((Chg.refl [] w).alloc _).alloc _).drew.then hc); clear hc))
  all_goals
    go_wp2
    refine bodyPost_ret (v := .tuple #[x.val, .int .i64 1]) ?_ rfl ⟨rfl, by repeat' (first | with_reducible exact HC.out | with_reducible apply Chg.alloc | with_reducible apply Chg.setCell | (with_reducible refine Or.inr ?_; dsimp only; omega))⟩
    simp [results, Try.results27, go_sem, Dm.val, hz, r0, r1, r2, r3, r4, r5, r6, r7, r8, r9, r10]
theorem nchange (h : NilD w v) (i q : Int) (f : Nat) (cs : Array Value) : Calls Try.prog 37 #[v, .agg #[.int .i64 i, .int .u64 q], .func (.func f) #[] cs] w fun e w' => e = .returned (.int .i64 1) ∧ Chg [] w w' := by
  have HG := Lib.hid (fun W (hW : Chg [] w W) => nget (h.chg hW) i q)
  obtain ⟨x, hx⟩ : ∃ x, x = dm0 := ⟨_, rfl⟩
  rw [← hx] at HG
  clear hx h
  go_enter Try.func37, Try.ntmps37
  go_wp2_with (go_at_call 27; refine (HG.out _ ((Chg.refl _ _).alloc _)).mono ?_; rintro e w1 ⟨rfl, hc⟩; have HC := Lib.hid (((Chg.refl [] w).alloc _).then hc); clear hc)
  go_ret
  exact ⟨rfl, HC.out.alloc (obX x)⟩
theorem nuse (h : NilD w v) (i q n : Int) : Calls Try.prog 12 #[v, .agg #[.int .i64 i, .int .u64 q], .int .u64 n] w fun e w' => e = .returned (.int .i64 1) ∧ Chg [] w w' := by
  have HA := Lib.hid (fun W (hW : Chg [] w W) f cs => nchange (h.chg hW) i q f cs)
  clear h
  go_enter Try.func12, Try.ntmps12
  go_wp2_with (go_at_call 37; refine (HA.out _ (((Chg.refl _ _).alloc _).alloc _) _ _).mono ?_; rintro e w1 ⟨rfl, hc⟩; have HC := Lib.hid ((((Chg.refl [] w).alloc _).alloc _).then hc); clear hc)
  go_ret
  exact ⟨rfl, HC.out⟩
theorem nclear (h : NilD w v) (i q : Int) : Calls Try.prog 41 #[v, .agg #[.int .i64 i, .int .u64 q]] w fun e w' => e = .returned (.int .i64 1) ∧ Chg [] w w' := by
  have HA := Lib.hid (fun W (hW : Chg [] w W) f cs => nchange (h.chg hW) i q f cs)
  clear h
  go_enter Try.func41, Try.ntmps41
  go_wp2_with (go_at_call 37; refine (HA.out _ ((Chg.refl _ _).alloc _) _ _).mono ?_; rintro e w1 ⟨rfl, hc⟩; have HC := Lib.hid (((Chg.refl [] w).alloc _).then hc); clear hc)
  go_ret
  exact ⟨rfl, HC.out⟩
end
end Go.Proofs
end
section
namespace Go.Proofs
open Go.RowKit Go.Shelf
set_option linter.unusedVariables false
set_option linter.unusedSimpArgs false
theorem nsize (w : World) : Calls Try.prog 85 #[.pointer none] w fun e w' => e = .returned (.int .i64 0) ∧ w = w' := by
  go_enter Try.func85, Try.ntmps85
  go_wp2
  go_ret
  exact ⟨rfl, rfl⟩
theorem nfree (w : World) : Calls Try.prog 80 #[.pointer none] w fun e w' => e = .returned (.int .i64 0) ∧ w = w' := by
  go_enter Try.func80, Try.ntmps80
  go_wp2
  go_ret
  exact ⟨rfl, rfl⟩
section
variable {w : World} {v : Value}
theorem ncopy (w : World) : Calls Try.prog 29 #[.pointer none] w fun e w' => e = .returned (.pointer none) ∧ w = w' := by
  go_enter Try.func29, Try.ntmps29
  go_wp2
  go_ret
  exact ⟨rfl, rfl⟩
theorem nat_ (w : World) (i : Int) : Calls Try.prog 60 #[.pointer none, .int .i64 i] w fun e w' => e = .returned (.tuple #[.agg #[.int .i64 0, .int .u64 0], .bool false]) ∧ Chg [] w w' := by
  have HT := Lib.hid tnone
  go_enter Try.func60, Try.ntmps60
  go_wp2_with (go_at_call 77; refine (HT.out _).mono ?_; rintro e w' ⟨rfl, rfl⟩)
  exact bodyPost_ret (v := .tuple #[.agg #[.int .i64 0, .int .u64 0], .bool false]) (by simp [results, Try.results60, go_sem]) rfl ⟨rfl, by repeat' (first | with_reducible exact Chg.refl [] _ | with_reducible apply Chg.alloc | with_reducible apply Chg.drew | (with_reducible refine Chg.setCell ?_ (Or.inr (by simp)) _))⟩
set_option maxRecDepth 100000 in
theorem ncarve (h : NilD w v) (i q gs cpu per : Int) : Calls Try.prog 34 #[v, .agg #[.int .i64 i, .int .u64 q], .int .i64 gs, .int .u64 cpu, .int .u64 per] w fun e w' => e = .returned (.tuple #[.agg #[.int .i64 0, .int .u64 0], .int .i64 1]) ∧ Chg [] w w' := by
  have HN := Lib.hid (fun W (hW : Chg [] w W) => nnone (h.chg hW))
  clear h
  go_enter Try.func34, Try.ntmps34
  go_wp2_with (go_at_call 61; refine (HN.out _ (by repeat' (first | with_reducible exact Chg.refl [] _ | with_reducible apply Chg.alloc | with_reducible apply Chg.drew))).mono ?_; rintro e w' ⟨rfl, rfl⟩)
  exact bodyPost_ret (v := .tuple #[.agg #[.int .i64 0, .int .u64 0], .int .i64 1]) (by simp [results, Try.results34, go_sem]) rfl ⟨rfl, by repeat' (first | with_reducible exact Chg.refl [] _ | with_reducible apply Chg.alloc | with_reducible apply Chg.drew | (with_reducible refine Chg.setCell ?_ (Or.inr (by simp)) _))⟩
set_option maxRecDepth 100000 in
theorem nroot (h : NilD w v) : Calls Try.prog 33 #[v] w fun e w' => e = .returned (.agg #[.int .i64 0, .int .u64 0]) ∧ Chg [] w w' := by
  have HP := Lib.hid (fun W (hW : Chg [] w W) => nplaces (h.chg hW))
  have HA := Lib.hid (fun W => nat_ W 0)
  clear h
  go_enter Try.func33, Try.ntmps33
  go_wp2_with (first
    | (go_at_call 50; refine (HP.out _ ((Chg.refl _ _).alloc _)).mono ?_; rintro e w' ⟨rfl, rfl⟩)
    | (go_at_call 60; refine (HA.out _).mono ?_; rintro e w1 ⟨rfl, hc⟩; have hR1 := ((Blk.new w 34 #[.int .i64 0, .int .u64 0]).chg hc (by simp)); have r0 := hR1.cell 0; have r1 := hR1.cell 1; have rf := hR1.frozen; have lr := hR1.lt; have HC := Lib.hid (((Chg.refl [] w).alloc _).then hc); clear hc hR1))
  refine bodyPost_ret (v := .agg #[.int .i64 0, .int .u64 0]) ?_ rfl ⟨rfl, ?_⟩
  · simp [results, Try.results33, go_sem, r0, r1, lr]
  · repeat' (first | with_reducible exact HC.out | with_reducible apply Chg.alloc | with_reducible apply Chg.setCell | (with_reducible refine Or.inr ?_; dsimp only; omega))
end
end Go.Proofs
end
section
namespace Go.Proofs
open Go.RowKit Go.Shelf
set_option linter.unusedVariables false
set_option linter.unusedSimpArgs false
attribute [local go_sem] Oper.semAt_some
/-! ### The chain of no domains -/
theorem NilD.off {A B : World} {v : Value} (h : NilD A v) (hb : ∀ (k : Nat) (t : TypeId) (cs : Array Value), Blk A k t cs → Blk B k t cs) : NilD B v := by
  rcases h with h | ⟨z, h1, h2⟩
  · exact .inl h
  · exact .inr ⟨z, h1, hb _ _ _ h2⟩
def KpN (v : Value) (rB dB : Nat) (A B : World) : Prop := (A.heap.size ≤ B.heap.size ∧ B.heap[rB]? = A.heap[rB]? ∧ B.heap[dB]? = A.heap[dB]?) ∧ (NilD A v → NilD B v)
theorem KpN.trans {v : Value} {rB dB : Nat} {A B C : World} (h : KpN v rB dB A B) (k : KpN v rB dB B C) : KpN v rB dB A C :=
  ⟨⟨Nat.le_trans h.1.1 k.1.1, k.1.2.1.trans h.1.2.1, k.1.2.2.trans h.1.2.2⟩, fun hs => k.2 (h.2 hs)⟩
theorem KpN.quiet {v : Value} {rB dB : Nat} {A B : World} (h : Chg [] A B) (hr : rB < A.heap.size) (hd : dB < A.heap.size) : KpN v rB dB A B :=
  ⟨⟨h.size, h.block _ hr (by simp), h.block _ hd (by simp)⟩, fun hs => hs.chg h⟩
theorem KpN.alloc {v : Value} {rB dB : Nat} (W : World) (o : Obj) (hr : rB < W.heap.size) (hd : dB < W.heap.size) : KpN v rB dB W (W.alloc o) := KpN.quiet ((Chg.refl _ _).alloc _) hr hd
theorem nchain (w : World) (v : Option Addr) (i q : Int) :
    Calls Try.prog 54 #[.pointer v, .agg #[.int .i64 i, .int .u64 q]] w fun e w' => e = .returned (.func (.func 76) #[] #[ptr (w.heap.size + 1), ptr w.heap.size]) ∧ w' = (w.alloc (.cells #[.pointer v] 25)).alloc (obRef i q) := by
  go_enter Try.func54, Try.ntmps54
  go_wp2
  go_ret
  exact ⟨rfl, rfl⟩
set_option maxHeartbeats 1600000 in
set_option maxRecDepth 100000 in
theorem nchain_foot {n : Nat} {w : World} {v : Value} {rB dB : Nat} {i q : Int} (hn : 1 ≤ n) (hR : Blk w rB 34 #[.int .i64 i, .int .u64 q]) (hD : Blk w dB 25 #[v]) (hS : NilD w v) :
    SeqFoot Fence.wide n Try.prog 76 #[ptr rB, ptr dB] encR (KpN v rB dB) (fun pre x => False) (fun xs => xs = []) (fun pre => False) 0 (n - 1) w := by
  intro l J Jx M0 W hW hJ hJl hY hJx h0
  have lr := hR.lt
  have ld := hD.lt
  have rW : Blk W rB 34 #[.int .i64 i, .int .u64 q] := hR.same hW.1.2.1
  have b0 := rW.cell 0
  have b1 := rW.cell 1
  have HRD := Lib.hid (show rB < W.heap.size ∧ dB < W.heap.size from ⟨rW.lt, Nat.lt_of_lt_of_le ld hW.1.1⟩)
  have HDW := Lib.hid (fun W' (h : KpN v rB dB W W') => (show Blk W' dB 25 #[v] from (hD.same hW.1.2.2).same h.1.2.2))
  have HSW := Lib.hid (fun W' (h : KpN v rB dB W W') => h.2 (hW.2 hS))
  have HJ := Lib.hid hJ
  have HJL := Lib.hid hJl
  clear hR hD hS rW lr ld hY
  refine callsIn_of_wp Try.func76 rfl trivial ?_ rfl
  simp only [Try.ntmps76, List.size_toArray, List.length_cons, List.length_nil, Nat.reduceAdd, Nat.reduceSub, Array.replicate_succ, Array.replicate_zero, List.push_toArray, List.append_toArray, List.nil_append, List.cons_append]
  gi_wp2
  gi_loopg [4] 0 (fun gh b4 wr => gh = 0 ∧ b4 = .pointer (some ⟨W.heap.size, 0, none⟩) ∧ Hid (KpN v rB dB W wr ∧ J [] M0 wr) ∧ Hid (Blk wr W.heap.size 34 #[.int .i64 i, .int .u64 q]))
  case atStart =>
    exact ⟨rfl, rfl, Lib.hid ⟨KpN.alloc W _ HRD.out.1 HRD.out.2, HJ.out _ _ _ _ h0 ((KeepM.alloc W _).less (HJL.out _ _ _ h0))⟩, Lib.hid (Blk.new W 34 _)⟩
  case round =>
    obtain ⟨_, rfl, HH, HB⟩ := hrel
    obtain ⟨hk, hj⟩ := HH.out
    have hnil := HSW.out _ hk
    have hdB := HDW.out _ hk
    have d0 := hdB.cell 0
    have c0 := HB.out.cell 0
    have c1 := HB.out.cell 1
    have lB := HB.out.lt
    have HG := Lib.hid (nget hnil i q)
    obtain ⟨x, hx⟩ : ∃ x, x = dm0 := ⟨_, rfl⟩
    rw [← hx] at HG
    have Hj := Lib.hid hj
    clear hx hnil hj hk HH hdB
    gi_wp2_with (refine ⟨trivial, ?_⟩; gi_at_call 27; refine (callsIn_wide.2 HG.out).mono ?_; rintro e w1 ⟨rfl, hc⟩; have HC := Lib.hid hc; clear hc)
    refine ⟨(fun f h => by cases h), ?_⟩
    gi_wp2_with (fail)
    refine bodyPost_ret (results_none rfl _ _ _) rfl ?_
    have hjj : J [] M0 (w1.alloc (obX x)) := HJ.out _ _ _ _ Hj.out (KeepM.of_chg (S := []) (HC.out.alloc _) (fun k hk => ⟨HJL.out _ _ _ Hj.out k hk, by simp⟩))
    exact ⟨⟨_, rfl⟩, M0, fun k hk => .inl hk, .inl ⟨[], rfl, hjj⟩⟩
set_option maxHeartbeats 3200000 in
set_option maxRecDepth 100000 in
theorem nappendSeq (n : Nat) (hn : 6 ≤ n) {w : World} {v : Value} {rB dB : Nat} {i q : Int} (hR : Blk w rB 34 #[.int .i64 i, .int .u64 q]) (hD : Blk w dB 25 #[v]) (hS : NilD w v) :
    CallsIn Fence.wide n Try.prog 75 #[.slice none 0 0, .func (.func 76) #[] #[ptr rB, ptr dB]] w fun e w' => e = .returned (.slice none 0 0) ∧ Chg [] w w' := by
  have h1 : 1 ≤ n := by omega
  refine callsIn_of_wp_marks Try.func75 rfl trivial ?_ rfl
  simp only [Try.ntmps75, List.size_toArray, List.length_cons, List.length_nil, Nat.reduceAdd, Nat.reduceSub, Array.replicate_succ, Array.replicate_zero, List.push_toArray, List.append_toArray, List.nil_append, List.cons_append]
  gi_wp2
  have bS := Blk.new w 27 #[.slice none 0 0]
  have hR0 := hR.alloc (.cells #[.slice none 0 0] 27)
  have hD0 := hD.alloc (.cells #[.slice none 0 0] 27)
  have hS0 : NilD (w.alloc (.cells #[.slice none 0 0] 27)) v := hS.chg ((Chg.refl _ _).alloc _)
  have hC0 : Chg [] w (w.alloc (.cells #[.slice none 0 0] 27)) := (Chg.refl _ _).alloc _
  have hz0 : (w.alloc (.cells #[.slice none 0 0] 27)).heap.size = w.heap.size + 1 := by simp
  obtain ⟨W0, hW0⟩ : ∃ W0, (w.alloc (.cells #[.slice none 0 0] 27)) = W0 := ⟨_, rfl⟩
  rw [hW0] at bS hR0 hD0 hS0 hC0 hz0 ⊢
  clear hW0
  have lr := hR.lt
  have ld := hD.lt
  refine wpIn_rangeFunc_foot rfl h1 (gf := 76) (lb := #[ptr rB, ptr dB]) rfl trivial (enters_of Try.func76 (by kernel_rfl) rfl)
    (nchain_foot (n := n - 1) (by omega) hR0 hD0 hS0) (fun h k => h.trans k) (fun W o hle => KpN.alloc W o (by omega) (by omega))
    (fun W o o' hl ho => ⟨⟨by simp [World.putObj], World.putObj_heap_other (by omega), World.putObj_heap_other (by omega)⟩, fun hs => hs.off (blk_putObj hl ho)⟩) ⟨⟨Nat.le_refl _, rfl, rfl⟩, id⟩ (fun _ => rfl)
    (fun pre M W => Blk W w.heap.size 27 #[.slice none 0 0] ∧ (∀ k, M k ↔ k < W0.heap.size) ∧ Chg [w.heap.size] W0 W) (fun _ _ _ _ => False)
    ?hI ?hIl (fun c s M A B hs _ => hs) (M0 := fun k => k < W0.heap.size) ⟨bS, fun k => Iff.rfl, Chg.refl _ _⟩
    (fun x a' W => False)
    (fun x a' W o o' h _ _ => h) ?assign ?body ?done ?stop
  case hI =>
    rintro pre M A B ⟨hB, hM, hC⟩ hk
    exact ⟨hB.same (hk.block _ ((hM _).2 (by omega))), hM, ⟨hk.os.trans hC.os, hk.tape.trans hC.tape, hk.output.trans hC.output, Nat.le_trans hC.size hk.size, fun k hk1 hk2 => (hk.block k ((hM k).2 hk1)).trans (hC.block k hk1 hk2)⟩⟩
  case hIl =>
    rintro pre M A ⟨hB, hM, hC⟩ k hk
    exact Nat.lt_of_lt_of_le ((hM k).1 hk) hC.size
  case assign => exact fun l pre x M W K _ hT _ => hT.elim
  case body => exact fun l pre x a' M W _ hT _ _ _ => hT.elim
  case done =>
    rintro D xs M W hDW hMD hM0 rfl ⟨hB, hM, hC⟩ hK
    have c0 := hB.cell 0
    gi_wp2
    have z1 := hC.size
    refine ⟨by simp, .inl ⟨_, _, rfl, run_takeDeferred hK, ?_⟩⟩
    have hkD : KeepM (fun k => k ≠ D) W (W.putObj D (.deferred none)) := KeepM.putObj W D _
    refine ⟨_, results_tmp rfl _ _ _, rfl, ?_⟩
    exact ⟨hkD.os.trans (hC.os.trans hC0.os), hkD.tape.trans (hC.tape.trans hC0.tape), hkD.output.trans (hC.output.trans hC0.output), Nat.le_trans (Nat.le_trans hC0.size hC.size) hkD.size, fun k hk1 hk2 => (hkD.block k (by omega)).trans ((hC.block k (by omega) (by simp; omega)).trans (hC0.block k hk1 hk2))⟩
  case stop =>
    rintro D c pre M W _ _ _ _ h
    exact h.elim
set_option maxRecDepth 100000 in
/-- Chain of no domains. -/
theorem nChain {w : World} {v : Value} (h : NilD w v) (i q : Int) :
    Calls Try.prog 28 #[v, .agg #[.int .i64 i, .int .u64 q]] w fun e w' => e = .returned (.slice none 0 0) ∧ Chg [] w w' := by
  have HC : ∀ W rB dB, Blk W rB 34 #[.int .i64 i, .int .u64 q] → Blk W dB 25 #[v] → Chg [] w W → Calls Try.prog 53 #[.func (.func 76) #[] #[ptr rB, ptr dB]] W fun e w' => e = .returned (.slice none 0 0) ∧ Chg [] W w' := fun W rB dB hr hd hc => by
    have HA := (callsIn_wide (n := 8)).1 (nappendSeq 8 (by omega) hr hd (h.chg hc))
    have HH := Lib.hid HA
    clear HA hr hd hc
    go_enter Try.func53, Try.ntmps53
    go_wp2_with (go_at_call 75; refine HH.out.mono ?_; rintro e w' ⟨rfl, hc⟩)
    go_ret
    exact ⟨rfl, hc⟩
  have HH := Lib.hid HC
  clear HC
  obtain ⟨p, rfl⟩ : ∃ p, v = .pointer p := by
    rcases h with rfl | ⟨z, rfl, _⟩
    · exact ⟨_, rfl⟩
    · exact ⟨_, rfl⟩
  clear h
  go_enter Try.func28, Try.ntmps28
  go_wp2_with (first
    | (go_at_call 54; refine (nchain _ _ _ _).mono ?_; rintro e w' ⟨rfl, rfl⟩)
    | (go_at_call 53; refine (HH.out _ _ _ (Blk.at' _ 34 _ (by simp)) ((Blk.at' _ 25 _ (by simp)).alloc _) (((Chg.refl [] w).alloc _ |>.alloc _).alloc _)).mono ?_; rintro e w' ⟨rfl, hc⟩))
  go_ret
  exact ⟨rfl, (((Chg.refl [] w).alloc _ |>.alloc _).alloc _).then hc⟩
end Go.Proofs
end
section
namespace Go.Proofs
open Go.RowKit Go.Shelf
set_option linter.unusedVariables false
set_option linter.unusedSimpArgs false
attribute [local go_sem] Oper.semAt_some
set_option maxHeartbeats 1600000 in
theorem now_nil_in (n : Nat) (hn : 1 ≤ n) (l b : Nat) (W : World) (hV : W.cell? ⟨b, 0, none⟩ = some (.pointer none)) (J Jx : List Plc → World → Prop) (h0 : J [] W) :
    CallsIn Fence.wide n Try.prog 84 #[.func (.yield l) #[] #[], .pointer (some ⟨b, 0, none⟩)] W fun e W' => (∃ v, e = .returned v) ∧ ((∃ ys, ys = [] ∧ J ys W') ∨ (∃ pre : List Plc, pre = [] ∧ Jx pre W')) := by
  refine callsIn_of_wp Try.func84 rfl trivial ?_ rfl
  simp only [Try.ntmps84, List.size_toArray, List.length_cons, List.length_nil, Nat.reduceAdd, Nat.reduceSub, Array.replicate_succ, Array.replicate_zero, List.push_toArray, List.append_toArray, List.nil_append, List.cons_append]
  gi_wp2_with (refine ⟨trivial, ?_⟩; gi_at_call 85; refine (callsIn_wide.2 (nsize _)).mono ?_; rintro e w' ⟨rfl, rfl⟩)
  gi_loopw [8] (fun iv wr => iv = .int .i64 0 ∧ wr = W) (fun iv wr => 0)
  case atStart => exact ⟨rfl, rfl⟩
  case round =>
    obtain ⟨rfl, rfl⟩ := hrel
    gi_wp2
    go_end0
    exact ⟨⟨_, rfl⟩, .inl ⟨_, rfl, h0⟩⟩
theorem now_nil_stops (n : Nat) (hn : 1 ≤ n) (b : Nat) (w : World) (hb : b < w.heap.size) (hV : w.cell? ⟨b, 0, none⟩ = some (.pointer none)) :
    SeqStopsK Fence.wide n Try.prog 84 #[.pointer (some ⟨b, 0, none⟩)] Plc.encs (fun _ _ => True) (fun ys => ys = []) (fun pre => pre = []) 0 w := fun l J Jx W hW hJ _ hY h0 =>
  now_nil_in n hn l b W ((hW.cell (p := ⟨b, 0, none⟩) hb).trans hV) J Jx h0
set_option maxRecDepth 100000 in
set_option maxHeartbeats 3200000 in
/-- All of no table: nothing is gathered. -/
theorem all_nil (n : Nat) (hn : 6 ≤ n) (w : World) :
    CallsIn Fence.wide n Try.prog 51 #[.pointer none] w fun e W' => Gathered w.heap.size [] e W' ∧ Below w.heap.size w W' := by
  have h1 : 1 ≤ n := by omega
  refine callsIn_of_wp_marks Try.func51 rfl trivial ?_ rfl
  simp only [Try.ntmps51, List.size_toArray, List.length_cons, List.length_nil, Nat.reduceAdd, Nat.reduceSub, Array.replicate_succ, Array.replicate_zero, List.push_toArray, List.append_toArray, List.nil_append, List.cons_append]
  gi_wp2_with (refine ⟨trivial, ?_⟩; gi_at_call 72; refine (make_now (n - 1) _ _).mono ?_; rintro e w' ⟨rfl, rfl⟩)
  have bS := (Boxed.new w 127 (.slice none 0 0)).alloc (.cells #[.pointer none] 102)
  have bT := Boxed.new (w.alloc (.cells #[.slice none 0 0] 127)) 102 (.pointer none)
  simp only [World.size_alloc] at bT
  have hB0 : Below w.heap.size w ((w.alloc (.cells #[.slice none 0 0] 127)).alloc (.cells #[.pointer none] 102)) := ((Below.refl _ w).alloc (Nat.le_refl _) _).alloc (by simp) _
  have hsz : ((w.alloc (.cells #[.slice none 0 0] 127)).alloc (.cells #[.pointer none] 102)).heap.size = w.heap.size + 2 := by simp
  obtain ⟨W0, hW0⟩ : ∃ W0, (w.alloc (.cells #[.slice none 0 0] 127)).alloc (.cells #[.pointer none] 102) = W0 := ⟨_, rfl⟩
  rw [hW0] at bS bT hB0 hsz ⊢
  clear hW0
  obtain ⟨i0, hi0, hz0, hz1, hz2⟩ := info_parts Try.info_N
  refine wpIn_rangeFunc_ownH rfl h1 (gf := 84) (lb := #[.pointer (some ⟨w.heap.size + 1, 0, none⟩)]) rfl trivial (enters_of Try.func84 (by kernel_rfl) rfl)
    (now_nil_stops (n - 1) (by omega) (w.heap.size + 1) W0 (by omega) bT.cell) (fun _ _ => trivial)
    (fun _ _ _ _ _ _ _ _ => trivial)
    (Below.refl _ _) (fun _ => rfl)
    (fun pre W => ((∃ V, Boxed W w.heap.size 127 V ∧ W.ownsRow w.heap.size 129 13 V pre.length (plcCells pre) ∧ True) ∧ Boxed W (w.heap.size + 1) 102 (.pointer none)) ∧ Below w.heap.size W0 W)
    (fun _ _ _ => False)
    (OwnFrom.and (OwnFrom.and (Own.from (holdsRow_own w.heap.size w.heap.size 127 129 13 (fun pre : List Plc => pre.length) (fun pre => plcCells pre) (fun pre v => True)) _) (Own.from (boxed_own _ _ _) _)) (ownFrom_below (by omega) (by omega)))
    (fun _ _ _ _ _ hs _ _ => hs)
    ⟨⟨⟨_, bS, World.ownsRow_nil _ _ _ _, trivial⟩, bT⟩, Below.refl _ _⟩
    (fun x a' W => ∃ Bx By, w.heap.size + 1 < Bx ∧ w.heap.size + 1 < By ∧ Blk W Bx 34 #[.int .i64 x.i, .int .u64 x.q] ∧ Blk W By 59 x.x.arr ∧ a' = { tmps := #[.pointer none, undef, .nilFunc, .pointer (some ⟨w.heap.size, 0, none⟩), .pointer (some ⟨Bx, 0, none⟩), .pointer (some ⟨By, 0, none⟩), .pointer none, .func (.func 84) #[] #[.pointer (some ⟨w.heap.size + 1, 0, none⟩)], .agg #[.int .i64 x.i, .int .u64 x.q], x.x.val, undef, undef, undef, undef, undef, undef, undef], defers := [] })
    (fun x a' _ X Y row hs hg hr => by
      obtain ⟨Bx, By, h1, h1', h2, h2', h3⟩ := hs
      have k : ∀ {b : Nat} {t : TypeId} {cs : Array Value}, Blk X b t cs → Blk Y b t cs := fun {b t cs} h2 => h2.same (hg.block b h2.lt (fun e => by
        obtain ⟨_, o, ho, hc⟩ := hr b e.symm
        unfold Blk at h2
        rw [h2] at ho; cases ho; cases hc))
      exact ⟨Bx, By, h1, h1', k h2, k h2', h3⟩)
    ?assign ?body ?done ?stop
  case assign =>
    rintro l pre x W K ⟨⟨⟨V, hV, hr, _⟩, hT9⟩, hB⟩ hK
    have hz := hB.size
    have hzw : w.heap.size ≤ W.heap.size := by omega
    simp only [Plc.encs]
    gi_wp2
    exact hK _ _ (((KeepsOthers.alloc _ _).trans (KeepsOthers.alloc _ _)).from _) trivial ⟨⟨⟨V, (hV.alloc _).alloc _, (hr.alloc _).alloc _, trivial⟩, (hT9.alloc _).alloc _⟩, (hB.alloc hzw _).alloc (by simp; omega) _⟩ ⟨W.heap.size, W.heap.size + 1, by omega, by omega, (Blk.new W 34 _).alloc _, Blk.at' (W.alloc _) 59 _ (by simp), rfl⟩
  case body =>
    rintro l pre x a' W hl hr hI hA hlt
    exact absurd hlt (Nat.not_lt_zero _)
  case done =>
    rintro D zs W hD rfl ⟨⟨⟨V, hV, hrow, _⟩, hT9⟩, hB⟩ hK
    have hz := hB.size
    have cS := hV.cell
    gi_wp2
    refine ⟨by simp, .inl ⟨_, _, rfl, run_takeDeferred hK, ?_⟩⟩
    have hgD := grownBy_putObj' W D (.deferred none)
    have hD2 : some w.heap.size ≠ some D := by intro e; cases e; omega
    refine ⟨_, results_tmp rfl _ _ _, ⟨w.heap.size, rfl, Nat.le_refl _, by have := (hV.kept hgD hD2).lt; exact this, V, (hV.kept hgD hD2).cell, Row.of_own (ownsRow_putObj hrow _ hK rfl), fun k hk => ⟨?_, Row.lt (Row.of_own (ownsRow_putObj hrow (.deferred none) hK rfl)) k hk⟩⟩, (hB0.trans hB).trans (belowK_b (w := w) (Nat.le_refl _) W D _ _ (by omega) hK rfl rfl)⟩
    rcases hrow.2 with ⟨rfl, _⟩ | ⟨g', cap, cur, rfl, hb, _, _⟩
    · cases hk
    · simp [foot_some] at hk; subst hk; exact hb
  case stop =>
    rintro D c pre W _ _ h _
    exact h.elim
set_option maxRecDepth 100000 in
set_option maxHeartbeats 3200000 in
/-- **All** of no domains. -/
theorem nAll_in (n : Nat) (hn : 10 ≤ n) {w : World} {v : Value} (h : NilD w v) :
    CallsIn Fence.wide n Try.prog 25 #[v] w fun e W' => e = .returned (.slice none 0 0) ∧ Below w.heap.size w W' := by
  have h1 : 1 ≤ n := by omega
  have HP := Lib.hid (fun W (hc : Chg [] w W) => nplaces (h.chg hc))
  have HA := Lib.hid (fun W => all_nil (n - 1) (by omega) W)
  clear h
  refine callsIn_of_wp_marks Try.func25 rfl trivial ?_ rfl
  simp only [Try.ntmps25, List.size_toArray, List.length_cons, List.length_nil, Nat.reduceAdd, Nat.reduceSub, Array.replicate_succ, Array.replicate_zero, List.push_toArray, List.append_toArray, List.nil_append, List.cons_append]
  gi_wp2_with (first
    | (refine ⟨trivial, ?_⟩; gi_at_call 50; refine (callsIn_wide.2 (HP.out _ ((Chg.refl _ _).alloc _))).mono ?_; rintro e w' ⟨rfl, rfl⟩)
    | (refine ⟨trivial, ?_⟩; gi_at_call 51; refine (HA.out _).mono ?_; rintro e W0 ⟨⟨Bo, rfl, hH⟩, hBl⟩; have HH := Lib.hid hH; have HBL := Lib.hid hBl; clear hH hBl))
  have hz0 := HBL.out.size
  simp only [World.size_alloc] at hz0
  have hBx : Boxed W0 w.heap.size 53 (.slice none 0 0) := (HBL.out.block _ (by simp)).trans (Boxed.new w 53 (.slice none 0 0))
  have hB0 : Below w.heap.size w W0 := ((Below.refl _ w).alloc (Nat.le_refl _) _).trans (HBL.out.mono (by simp))
  have hHT := HH.out.to
  simp only [World.size_alloc] at hHT
  have lbo := hHT.lt
  refine wpIn_rangeFunc_ownH rfl h1 (gf := 73) (lb := #[.pointer (some ⟨Bo, 0, none⟩)]) rfl trivial (enters_of Try.func73 (by kernel_rfl) rfl)
    (over_stops (xs := ([] : List Plc)) id (n - 1) (by omega) (X := fun k => w.heap.size + 1 ≤ k ∧ k < W0.heap.size) hHT (fun k h1 h2 => ⟨h1, h2⟩) (fun k hk => hk.2) (by simp)) (fun h k => h.trans k)
    (fun W l o o' hl ho _ _ => ⟨by simp [World.putObj], fun k hk => (grownBy_putObj' W l o').block k (by have := (Array.getElem?_eq_some_iff.1 ho).1; omega) (fun e => by cases e; omega)⟩)
    (Below.refl _ _) (fun _ => rfl)
    (fun pre W => Boxed W w.heap.size 53 (.slice none 0 0) ∧ Below w.heap.size W0 W)
    (fun _ _ _ => False)
    (OwnFrom.and (Own.from (boxed_own _ _ _) _) (ownFrom_below (by omega) (by omega)))
    (fun _ _ _ _ _ hs _ _ => hs)
    ⟨hBx, Below.refl _ _⟩
    (fun x a' W => True)
    (fun x a' _ X Y row hs hg hr => trivial)
    ?assign ?body ?done ?stop
  case assign =>
    rintro l pre x W K ⟨hV, hB⟩ hK
    have hz := hB.size
    simp only [Plc.encs, id]
    gi_wp2
    exact hK _ _ (((KeepsOthers.alloc _ _).trans (KeepsOthers.alloc _ _)).from _) (KeepP.quiet (((Chg.refl [] W).alloc _).alloc _) (fun k hk => by omega)) ⟨(hV.alloc _).alloc _, (hB.alloc (by omega) _).alloc (by simp; omega) _⟩ trivial
  case body =>
    rintro l pre x a' W hl hr hI hA hlt
    exact absurd hlt (Nat.not_lt_zero _)
  case done =>
    rintro D zs W hD rfl ⟨hV, hB⟩ hK
    have hz := hB.size
    have cS := hV.cell
    gi_wp2
    refine ⟨by simp, .inl ⟨_, _, rfl, run_takeDeferred hK, ?_⟩⟩
    have hB9 := (hB0.trans hB).trans (belowK_b (w := w) (Nat.le_refl _) W D _ (.deferred none) (by omega) hK rfl rfl)
    exact ⟨_, results_tmp rfl _ _ _, rfl, hB9⟩
  case stop =>
    rintro D c pre W _ _ h _
    exact h.elim
theorem nAll {w : World} {v : Value} (h : NilD w v) : Calls Try.prog 25 #[v] w fun e W' => e = .returned (.slice none 0 0) ∧ Chg [] w W' :=
  ((callsIn_wide (n := 12)).1 (nAll_in 12 (by omega) h)).mono fun e W' ⟨h1, h2⟩ => ⟨h1, Chg.of_below h2⟩
end Go.Proofs
end
section
namespace Go.Proofs
open Go.RowKit Go.Shelf
set_option linter.unusedVariables false
set_option linter.unusedSimpArgs false

/-! ### Domains that are not there -/
set_option maxHeartbeats 1600000 in
set_option maxRecDepth 100000 in
theorem nleast48 (w : World) (f : Value) : Calls Try.prog 48 #[.slice none 0 0, f] w fun e w' => e = .returned (.tuple #[.int .u64 0, .bool false]) ∧ w = w' := by
  go_enter Try.func48, Try.ntmps48
  go_wp2
  go_loopg [6, 7, 14] 0 (fun gh v6 v7 iv wr => gh = 0 ∧ v6 = .int .u64 0 ∧ v7 = .bool false ∧ iv = .int .i64 0 ∧ w = wr)
  case atStart => exact ⟨rfl, rfl, rfl, rfl, rfl⟩
  case round =>
    obtain ⟨_, rfl, rfl, rfl, rfl⟩ := hrel
    go_wp2
    go_ret2
    exact ⟨rfl, rfl⟩
set_option maxHeartbeats 1600000 in
set_option maxRecDepth 100000 in
theorem nleast45 (w : World) (f : Value) : Calls Try.prog 45 #[.slice none 0 0, f] w fun e w' => e = .returned (.tuple #[.int .u64 0, .bool false]) ∧ w = w' := by
  go_enter Try.func45, Try.ntmps45
  go_wp2
  go_loopg [6, 7, 14] 0 (fun gh v6 v7 iv wr => gh = 0 ∧ v6 = .int .u64 0 ∧ v7 = .bool false ∧ iv = .int .i64 0 ∧ w = wr)
  case atStart => exact ⟨rfl, rfl, rfl, rfl, rfl⟩
  case round =>
    obtain ⟨_, rfl, rfl, rfl, rfl⟩ := hrel
    go_wp2
    go_ret2
    exact ⟨rfl, rfl⟩
set_option maxRecDepth 100000 in
theorem nLeft (w : World) (i q : Int) : Calls Try.prog 22 #[.pointer none, .agg #[.int .i64 i, .int .u64 q]] w fun e w' => e = .returned (.int .u64 0) ∧ Chg [] w w' := by
  have HC := fun W => nChain (w := W) (v := .pointer none) (.inl rfl) i q
  go_enter Try.func22, Try.ntmps22
  go_wp2_with (first
    | (go_at_call 28; refine (HC _).mono ?_; rintro e w1 ⟨rfl, hc⟩; have HC1 := Lib.hid ((((Chg.refl [] w).alloc (.cells #[.pointer none] 25)).alloc (.cells #[.int .i64 i, .int .u64 q] 34)).then hc); clear hc)
    | (go_at_call 48; refine (nleast48 _ _).mono ?_; rintro e w2 ⟨rfl, rfl⟩))
  go_ret
  exact ⟨rfl, HC1.out⟩
set_option maxRecDepth 100000 in
theorem nCan (w : World) (i q : Int) : Calls Try.prog 23 #[.pointer none, .agg #[.int .i64 i, .int .u64 q]] w fun e w' => e = .returned (.bool false) ∧ Chg [] w w' := by
  go_enter Try.func23, Try.ntmps23
  go_wp2_with (go_at_call 22; refine (nLeft _ _ _).mono ?_; rintro e w1 ⟨rfl, hc⟩; have HC1 := Lib.hid (((Chg.refl [] w).alloc (.cells #[.int .i64 i, .int .u64 q] 34)).then hc); clear hc)
  go_ret
  exact ⟨rfl, HC1.out⟩
set_option maxRecDepth 100000 in
theorem nNext (w : World) (now : Int) : Calls Try.prog 20 #[.pointer none, .int .u64 now] w fun e w' => e = .returned (.tuple #[.int .u64 0, .bool false]) ∧ Chg [] w w' := by
  have HC := fun W => nAll (w := W) (v := .pointer none) (.inl rfl)
  go_enter Try.func20, Try.ntmps20
  go_wp2_with (first
    | (go_at_call 25; refine (HC _).mono ?_; rintro e w1 ⟨rfl, hc⟩; have HC1 := Lib.hid (((Chg.refl [] w).alloc (.cells #[.int .u64 now] 22)).then hc); clear hc)
    | (go_at_call 45; refine (nleast45 _ _).mono ?_; rintro e w2 ⟨rfl, rfl⟩))
  go_ret2
  exact ⟨rfl, HC1.out⟩
set_option maxHeartbeats 1600000 in
set_option maxRecDepth 100000 in
theorem nReset (w : World) (now : Int) : Calls Try.prog 15 #[.pointer none, .int .u64 now] w fun e w' => e = .returned (.slice none 0 0) ∧ Chg [] w w' := by
  have HC := fun W => nAll (w := W) (v := .pointer none) (.inl rfl)
  go_enter Try.func15, Try.ntmps15
  go_wp2_with (first
    | (go_at_call 25; refine (HC _).mono ?_; rintro e w1 ⟨rfl, hc⟩; have HC1 := Lib.hid hc; clear hc))
  go_loopg [5, 11] 0 (fun gh v5 iv wr => gh = 0 ∧ v5 = .slice none 0 0 ∧ iv = .int .i64 0 ∧ w1 = wr)
  case atStart => exact ⟨rfl, rfl, rfl, rfl⟩
  case round =>
    obtain ⟨_, rfl, rfl, rfl⟩ := hrel
    go_wp2
    go_ret
    exact ⟨rfl, HC1.out⟩
set_option maxHeartbeats 1600000 in
set_option maxRecDepth 100000 in
theorem nTight (w : World) (i q : Int) : Calls Try.prog 18 #[.pointer none, .agg #[.int .i64 i, .int .u64 q]] w fun e w' => e = .returned (.tuple #[.agg #[.int .i64 0, .int .u64 0], .bool false]) ∧ Chg [] w w' := by
  have HG := fun W => nget (w := W) (v := .pointer none) (.inl rfl) i q
  obtain ⟨x, hx⟩ : ∃ x, x = dm0 := ⟨_, rfl⟩
  rw [← hx] at HG
  clear hx
  go_enter Try.func18, Try.ntmps18
  go_wp2
  go_step3
  go_wp2
  go_step3
  go_wp2
  go_loopg [5, 6] 0 (fun gh v5 v6 wr => gh = 0 ∧ v5 = .bool false ∧ v6 = ptr (w.heap.size + 1 + 1) ∧ Hid (Chg [] w wr) ∧ Hid (Blk wr (w.heap.size + 1) 34 #[.int .i64 0, .int .u64 0] ∧ Blk wr (w.heap.size + 1 + 1) 34 #[.int .i64 i, .int .u64 q]))
  case atStart => exact ⟨rfl, rfl, by simp, Lib.hid ((((Chg.refl [] w).alloc _).alloc _).alloc _), Lib.hid ⟨(Blk.at' _ 34 _ (by simp)).alloc _, Blk.at' _ 34 _ (by simp)⟩⟩
  case round =>
    obtain ⟨_, rfl, rfl, HC, HB⟩ := hrel
    obtain ⟨hz, hb⟩ := HB.out
    have b0 := hb.cell 0
    have b1 := hb.cell 1
    have lb := hb.lt
    clear hz hb
    go_wp2_with (first
      | (go_at_call 27; refine (HG _).mono ?_; rintro e w1 ⟨rfl, hc1⟩; have HC1 := Lib.hid hc1; have hz1 := HB.out.1.chg hc1 (by simp); have z0 := hz1.cell 0; have z1 := hz1.cell 1; have lz := hz1.lt; have zf := hz1.frozen; clear hc1 hz1))
    rw [Exit.noGoto_ret]
    refine bodyPost_ret (v := .tuple #[.agg #[.int .i64 0, .int .u64 0], .bool false]) ?_ rfl ⟨rfl, ?_⟩
    · simp [results, Try.results18, go_sem, z0, z1, lz, zf]
    · repeat' (first | with_reducible exact HC.out.then HC1.out | with_reducible apply Chg.alloc | with_reducible apply Chg.setCell | (with_reducible refine Or.inr ?_; dsimp only; omega))
end Go.Proofs
end
section
namespace Go.Proofs
open Go.RowKit Go.Shelf
set_option linter.unusedVariables false
set_option linter.unusedSimpArgs false
abbrev zR0 : RTab := (rtab0 2).put (rkid 0 0 1 1 1)
theorem z0_sim : Sim 1 ((tab0 ((2 : Nat) : Int)).put dm0 (rootD 1 1 1)) zR0 (fun _ => [(0, 1)]) := Sim.begin (n := 2) (by omega) (by omega) (by omega) (by omega) (by omega) (by omega)
theorem z0_up : Up zR0.par 1 1 [] := Up.stop (rpar_none.2 (by decide))
set_option maxRecDepth 100000 in
set_option maxHeartbeats 3200000 in
theorem nil_any (w : World) : Calls Try.prog 7 #[] w fun e w' => e = .returned (.bool true) ∧ Chg [] w w' := by
  have HK := Lib.hid known_any
  have HN : Hid (∀ W, Chg [] w W → Calls Try.prog 30 #[.int .i64 2, .int .i64 1, .int .u64 1, .int .u64 1] W fun e W' => ∃ c, e = .returned (.tuple #[ptr c, .int .i64 0]) ∧ CAt w W' c 1 zR0 (fun _ => [(0, 1)])) := Lib.hid (fun W hW => (New_yes W (size := ((2 : Nat) : Int)) (gs := 1) (cpu := 1) (per := 1) (by omega) (by omega) (by decide)).mono (by
    rintro e W' ⟨c, S, rfl, hD, hf, hc⟩
    exact ⟨c, rfl, hW.then hc, S, _, hD, z0_sim, fun k hk => Nat.le_trans hW.size (hf k hk)⟩))
  have HT : Hid (∀ W c, CAt w W c 1 zR0 (fun _ => [(0, 1)]) → Calls Try.prog 18 #[ptr c, .agg #[.int .i64 1, .int .u64 1]] W fun e W' => e = .returned (.tuple #[.agg #[.int .i64 0, .int .u64 0], .bool false]) ∧ Chg [] W W') := Lib.hid (fun W c h => h.tight z0_up (by omega) (by omega))
  have HL : Hid (∀ W c, CAt w W c 1 zR0 (fun _ => [(0, 1)]) → Calls Try.prog 22 #[ptr c, .agg #[.int .i64 1, .int .u64 1]] W fun e W' => e = .returned (.int .u64 0) ∧ Chg [] W W') := Lib.hid (fun W c h => h.left z0_up (by simp) (by omega) (by omega))
  have HC : Hid (∀ W c, CAt w W c 1 zR0 (fun _ => [(0, 1)]) → Calls Try.prog 10 #[ptr c, .agg #[.int .i64 1, .int .u64 1]] W fun e W' => e = .returned (.bool false) ∧ CAt w W' c 1 zR0 (fun _ => [(0, 1)]) ∧ Rest w W W' c) := Lib.hid (fun W c h => h.charge z0_up (by simp) (by omega) (by omega))
  go_enter Try.func7, Try.ntmps7
  go_wp2_with (first
    | (go_at_call 30; refine (HN.out _ (Chg.refl _ _)).mono ?_; rintro e w1 ⟨c, rfl, h1⟩; have HA := Lib.hid (h1.quiet ((Chg.refl [] w1).alloc (.cells #[.int .i64 1, .int .u64 1] 34))); have HBX := Lib.hid (Blk.new w1 34 #[.int .i64 1, .int .u64 1]); clear h1)
    | (go_at_call 9; refine (HK.out _).mono ?_; rintro e w12 ⟨rfl, hc⟩; have HZ := Lib.hid (HA10.out.then hc); clear hc)
    | (go_at_call 15; (with_reducible refine (nReset _ _).mono ?_); rintro e w11 ⟨rfl, hc⟩; have HA10 := Lib.hid (HA9.out.then hc); clear hc)
    | (go_at_call 22; have HX := HA8.out; clear HX; (with_reducible refine (nLeft _ _ _).mono ?_); rintro e w10 ⟨rfl, hc⟩; have HA9 := Lib.hid (HA8.out.chg.then hc); clear hc)
    | (go_at_call 22; (with_reducible refine (HL.out _ _ HA7.out).mono ?_); rintro e w9 ⟨rfl, hc⟩; have HA8 := Lib.hid (HA7.out.quiet hc); have hb := HBX7.out.chg hc (by simp); have b0 := hb.cell 0; have b1 := hb.cell 1; have lb := hb.lt; clear hc hb)
    | (go_at_call 10; (with_reducible refine (HC.out _ _ HA6.out).mono ?_); rintro e w8 ⟨rfl, hk, hr⟩; have HA7 := Lib.hid hk; have hb := hr.blk HBX6.out; have HBX7 := Lib.hid hb; have b0 := hb.cell 0; have b1 := hb.cell 1; have lb := hb.lt; clear hk hr hb)
    | (go_at_call 23; (with_reducible refine (nCan _ _ _).mono ?_); rintro e w7 ⟨rfl, hc⟩; have HA6 := Lib.hid (HA5.out.quiet hc); have hb := HBX5.out.chg hc (by simp); have HBX6 := Lib.hid hb; have b0 := hb.cell 0; have b1 := hb.cell 1; have lb := hb.lt; clear hc hb)
    | (go_at_call 20; (with_reducible refine (nNext _ _).mono ?_); rintro e w6 ⟨rfl, hc⟩; have HA5 := Lib.hid ((HA3.out.quiet ((Chg.refl [] _).alloc (.cells #[.int .i64 0, .int .u64 0] 34))).quiet hc); have hb := (HBX3.out.alloc (.cells #[.int .i64 0, .int .u64 0] 34)).chg hc (by simp); have HBX5 := Lib.hid hb; have b0 := hb.cell 0; have b1 := hb.cell 1; have lb := hb.lt; clear hc hb)
    | (go_at_call 18; have HX := HA2.out; clear HX; (with_reducible refine (nTight _ _ _).mono ?_); rintro e w4 ⟨rfl, hc⟩; have HA3 := Lib.hid ((HA2.out.quiet ((Chg.refl [] _).alloc (.cells #[.int .i64 0, .int .u64 0] 34))).quiet hc); have hb := (HBX2.out.alloc (.cells #[.int .i64 0, .int .u64 0] 34)).chg hc (by simp); have HBX3 := Lib.hid hb; have b0 := hb.cell 0; have b1 := hb.cell 1; have lb := hb.lt; clear hc hb)
    | (go_at_call 18; (with_reducible refine (HT.out _ _ HA.out).mono ?_); rintro e w3 ⟨rfl, hc⟩; have HA2 := Lib.hid (HA.out.quiet hc); have hb := HBX.out.chg hc (by simp); have HBX2 := Lib.hid hb; have b0 := hb.cell 0; have b1 := hb.cell 1; have lb := hb.lt; clear hc hb))
  go_ret
  exact ⟨rfl, HZ.out⟩
end Go.Proofs
end
section
namespace Go.Proofs.Ytgelpbmjgebnhaa.quotaNil
open Go.ChangeShapes Go.WideShapes Go.ChangeAt Go.RowKit
set_option linter.unusedVariables false

theorem own : ownKnob Try.prog.godebug = none := by kernel_rfl

set_option maxRecDepth 100000 in
theorem lifted (os : Os) (started : os.Started) (H : Type) (enc : TypeId × Value → H) :
    ReturnsInHanded {} Try.checked os 7 .any (Rows.quotaNilSpec.pre6 enc Try.prog Try.f7 Rows.quotaNilRow.domain false) (Rows.quotaNilSpec.post enc Try.prog Try.f7 false true false false) := by
  refine returnsInHanded_of_change (C := Try.checked) own started (by kernel_rfl) Try.func7
    (ChangeSpec.witness6 (enc := enc) (C := Try.checked) false ⟨#[], #[], []⟩ 8 (by kernel_rfl) (by kernel_rfl) (by kernel_rfl) (by kernel_rfl)) ?_
  intro W base args ds gs before hval0 hW hcnd _
  have hval : ∀ (j : Nat) t v, Try.f7.params[j]? = some t → args[j]? = some v → Value.okWide Try.prog W .any base t v := hval0
  have hW' := hW
  obtain ⟨p, q, hA0, hV, rfl, hfz, hnd⟩ := hW
  have hA : DataW.TrodAll enc Try.prog W 0 (fun _ => true) true Try.f7.params.toList args.toList ds p := hA0
  rw [Try.params7] at hA hval
  obtain ⟨hnil, rfl, rfl⟩ := trodAll_nil hA
  obtain rfl : args = #[] := by cases args; simpa using hnil
  obtain ⟨rfl, rfl⟩ := trodVars_none hV
  clear hA0 hval0
  simp only [List.append_nil] at hW'
  refine (nil_any W).mono fun e W' ⟨he, hc⟩ => ?_
  have hg := hc.to_below
  subst he
  exact ⟨_, rfl, post_of_below (pa := []) (pv := []) hW' (fun _ _ _ => (trodAll_cons_mk (shut_bool Try.underlying4 _) trodAll_mk0)) (fun sp hsp => trodAll_mk0) (fun _ _ => rfl) (by simp)
    hg (ok_one (by kernel_rfl) rfl (okWide_bool_mk Try.underlying4 _))⟩

theorem over : Rows.quotaNilRow.holds Try.pinned (OpenSpec.ofChange Rows.quotaNilSpec) :=
  OpenClaim.holds_of_wide 7 Try.f7 rfl rfl rfl rfl rfl rfl rfl ⟨rfl, rfl, rfl, rfl, rfl⟩ rfl rfl rfl rfl rfl (by kernel_rfl) Try.func7 (by kernel_rfl)
    (of_decide_eq_true (by kernel_rfl)) (by unfold Func.isWrapper; first | (rw [if_pos (by decide +kernel)]; kernel_rfl) | (rw [if_neg (by decide +kernel)]; exact ⟨rfl, rfl⟩))
    (fun os started H enc _ => lifted os started H enc)

/-- ████ THE STATEMENT ████ -/
theorem proved : Rows.QuotaNilSaid :=
  over
#print axioms proved
end Go.Proofs.Ytgelpbmjgebnhaa.quotaNil
end
