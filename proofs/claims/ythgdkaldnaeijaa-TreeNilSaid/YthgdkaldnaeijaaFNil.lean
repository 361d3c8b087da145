/-
  What is answered of a forest that is not there, and which there are none of (stage 12).
-/
import Derived.Test.YthgdkaldnaeijaaM8
import Derived.Test.YthgdkaldnaeijaaM5
import Derived.Deep.RegionWith
import Derived.Test.YthgdkaldnaeijaaRows
import Derived.WalkKit
import Derived.Below
import Derived.ChangeSame
import Derived.ProofKit
import Derived.OpenShut
section
namespace Go.Proofs
open Go.RowKit
set_option linter.unusedVariables false
set_option linter.unusedSimpArgs false

/-- A zero forest. -/
def ZB (W : World) (z : Nat) : Prop := Blk W z 57 #[.int .i64 0, .int .i64 0, .slice none 0 0, .slice none 0 0]
def cz : Tr := ⟨0, 0, [], []⟩
theorem ZB.tree {W : World} {z : Nat} (h : ZB W z) : TreeAt W z [z] cz := ⟨.slice none 0 0, .slice none 0 0, h, Row.nil _ _ _, Row.nil _ _ _, rfl⟩
section
variable {W : World} {z : Nat}
theorem add_nil (w : World) : Calls Try.prog 27 #[.pointer none, .int .i64 (-1)] w fun e w' => e = .returned (.tuple #[.int .i64 0, .int .i64 1]) ∧ Chg [] w w' := by
  go_enter Try.func27, Try.ntmps27
  go_wp2_with (go_at_call 38; refine (none_nil w).mono ?_; rintro e w' ⟨rfl, rfl⟩)
  go_ret2
  exact ⟨rfl, Chg.refl _ _⟩
theorem prune_zero (h : ZB W z) : Calls Try.prog 16 #[ptr z, .int .i64 0] W fun e w' => e = .returned (.tuple #[.slice none 0 0, .int .i64 1]) ∧ Chg [] W w' := by
  have HF := find_any h.tree (by show (0 : Nat) ≤ 4096; omega) 0
  have e0 : findE cz 0 = 1 := rfl
  rw [e0] at HF
  go_enter Try.func16, Try.ntmps16
  go_wp2_with (go_at_call 41; refine HF.mono ?_; rintro e w' ⟨rfl, hc⟩)
  go_ret2
  exact ⟨rfl, hc⟩
theorem drop_nil (w : World) : Calls Try.prog 26 #[.pointer none, .int .i64 0] w fun e w' => e = .returned (.int .i64 1) ∧ Chg [] w w' := by
  go_enter Try.func26, Try.ntmps26
  go_wp2_with (go_at_call 41; refine (find_nil w 0).mono ?_; rintro e w' ⟨rfl, rfl⟩)
  go_ret
  exact ⟨rfl, Chg.refl _ _⟩
theorem roots_nil (w : World) : Calls Try.prog 22 #[.pointer none] w fun e w' => e = .returned (.slice none 0 0) ∧ Chg [] w w' := by
  go_enter Try.func22, Try.ntmps22
  go_wp2_with (go_at_call 38; refine (none_nil w).mono ?_; rintro e w' ⟨rfl, rfl⟩)
  go_ret
  exact ⟨rfl, Chg.refl _ _⟩
theorem roots_zero (h : ZB W z) : Calls Try.prog 22 #[ptr z] W fun e w' => e = .returned (.slice none 0 0) ∧ Chg [] W w' := by
  have HN := none_any h.tree
  have e0 : decide (cz.size = 0) = true := rfl
  rw [e0] at HN
  go_enter Try.func22, Try.ntmps22
  go_wp2_with (go_at_call 38; refine HN.mono ?_; rintro e w' ⟨rfl, rfl⟩)
  go_ret
  exact ⟨rfl, Chg.refl _ _⟩
theorem kids_nil (w : World) : Calls Try.prog 19 #[.pointer none, .int .i64 0] w fun e w' => e = .returned (.slice none 0 0) ∧ Chg [] w w' := by
  go_enter Try.func19, Try.ntmps19
  go_wp2_with (go_at_call 23; refine (has_nil w 0).mono ?_; rintro e w' ⟨rfl, hc⟩)
  go_ret
  exact ⟨rfl, hc⟩
theorem desc_zero (h : ZB W z) : Calls Try.prog 28 #[ptr z, .int .i64 0] W fun e w' => e = .returned (.slice none 0 0) ∧ Chg [] W w' := by
  have HN := has_any h.tree (by show (0 : Nat) ≤ 4096; omega) 0
  have e0 : (cz.nd 0).there = false := rfl
  rw [e0] at HN
  go_enter Try.func28, Try.ntmps28
  go_wp2_with (go_at_call 23; refine HN.mono ?_; rintro e w' ⟨rfl, hc⟩)
  go_ret
  exact ⟨rfl, hc⟩
theorem under_zero (h : ZB W z) : Calls Try.prog 24 #[ptr z, .int .i64 0, .int .i64 0] W fun e w' => e = .returned (.bool false) ∧ Chg [] W w' := by
  have HN := pa_no h.tree (by show (0 : Nat) ≤ 4096; omega) (i := 0) (fun hh => by have e0 : (cz.nd 0).there = false := rfl; rw [e0] at hh; cases hh.1)
  go_enter Try.func24, Try.ntmps24
  go_wp2_with (go_at_call 25; refine HN.mono ?_; rintro e w' ⟨rfl, hc⟩)
  go_loopg [7, 8] 0 (fun gh xv bv wr => bv = .bool false ∧ Hid (Chg [] W wr))
  case atStart => exact ⟨rfl, Lib.hid hc⟩
  case round =>
    obtain ⟨rfl, HC⟩ := hrel
    go_wp2
    go_ret
    exact ⟨rfl, HC.out⟩
theorem same_nil_zero (h : ZB W z) : Calls Try.prog 18 #[.pointer none, ptr z] W fun e w' => e = .returned (.bool true) ∧ Chg [] W w' := by
  have HZ := Lib.hid (size_any h.tree)
  have HN := Lib.hid (size_nil W)
  go_enter Try.func18, Try.ntmps18
  go_wp2_with (first
    | (go_at_call_of 31 (ptr z); refine HZ.out.mono ?_; rintro e w' ⟨rfl, rfl⟩)
    | (go_at_call_of 31 (Value.pointer none); refine HN.out.mono ?_; rintro e w' ⟨rfl, rfl⟩))
  go_loopg [13] 0 (fun gh iv wr => iv = .int .i64 0 ∧ Hid (Chg [] W wr))
  case atStart => exact ⟨rfl, Lib.hid (Chg.refl _ _)⟩
  case round =>
    obtain ⟨rfl, HC⟩ := hrel
    go_wp2
    go_ret
    exact ⟨rfl, HC.out⟩
theorem same_one_nil {f : Nat} {S : List Nat} {c : Tr} (H : TreeAt W f S c) (hs : c.size = 4096) : Calls Try.prog 18 #[ptr f, .pointer none] W fun e w' => e = .returned (.bool false) ∧ Chg [] W w' := by
  have hz := size_any H
  rw [hs] at hz
  have HZ := Lib.hid hz
  have HN := Lib.hid (size_nil W)
  clear hz
  go_enter Try.func18, Try.ntmps18
  go_wp2_with (first
    | (go_at_call_of 31 (ptr f); refine HZ.out.mono ?_; rintro e w' ⟨rfl, rfl⟩)
    | (go_at_call_of 31 (Value.pointer none); refine HN.out.mono ?_; rintro e w' ⟨rfl, rfl⟩))
  go_ret
  exact ⟨rfl, Chg.refl _ _⟩
theorem same_nil_one {f : Nat} {S : List Nat} {c : Tr} (H : TreeAt W f S c) (hs : c.size = 4096) : Calls Try.prog 18 #[.pointer none, ptr f] W fun e w' => e = .returned (.bool false) ∧ Chg [] W w' := by
  have hz := size_any H
  rw [hs] at hz
  have HZ := Lib.hid hz
  have HN := Lib.hid (size_nil W)
  clear hz
  go_enter Try.func18, Try.ntmps18
  go_wp2_with (first
    | (go_at_call_of 31 (ptr f); refine HZ.out.mono ?_; rintro e w' ⟨rfl, rfl⟩)
    | (go_at_call_of 31 (Value.pointer none); refine HN.out.mono ?_; rintro e w' ⟨rfl, rfl⟩))
  go_ret
  exact ⟨rfl, Chg.refl _ _⟩
end
end Go.Proofs
end
section
namespace Go.Proofs
open Go.RowKit
set_option linter.unusedVariables false
set_option linter.unusedSimpArgs false

theorem new_has (n : Nat) (i : Int) : (Fo.new n).has i = false := by simp [Fo.has, Fo.new]
theorem new_facts (n : Nat) : (Fo.new (n + 1)).addE 0 = 4 ∧ (Fo.new (n + 1)).add 0 = Fo.new (n + 1) ∧ (Fo.new (n + 1)).addE (-7) = 0 ∧ (Fo.new (n + 1)).addN (-7) = 0 ∧ ((Fo.new (n + 1)).add (-7)).has 1 = false ∧ ((Fo.new (n + 1)).add (-7)).has (-1) = false ∧ ((Fo.new (n + 1)).add (-7)).size = n + 1 := by
  have hfr : (Fo.new (n + 1)).free = 0 :: (List.range n).map Nat.succ := by show List.range (n + 1) = _; rw [List.range_succ_eq_map]
  have e1 : (Fo.new (n + 1)).addE 0 = 4 := by unfold Fo.addE; rw [if_pos ⟨by omega, new_has _ _⟩]
  have e2 : (Fo.new (n + 1)).addE (-7) = 0 := by unfold Fo.addE; rw [if_neg (by omega), if_neg (by rw [hfr]; simp)]
  have e3 : (Fo.new (n + 1)).add (-7) = (Fo.new (n + 1)).addAt (optI (-7)) ((Fo.new (n + 1)).free.headD 0) (Fo.new (n + 1)).free.tail := by unfold Fo.add; rw [if_pos e2]
  refine ⟨e1, ?_, e2, ?_, ?_, Fo.has_neg _ (by omega), ?_⟩
  · unfold Fo.add; rw [e1, if_neg (by omega)]
  · unfold Fo.addN; rw [if_pos e2, hfr]; rfl
  · rw [e3, hfr]
    have : (1 : Int) = ((1 : Nat) : Int) := rfl
    rw [this, Fo.has_nat, Fo.addAt_there]
    rfl
  · rw [e3, Fo.addAt_size]; rfl
def Zz (w W : World) (z : Nat) : Prop := ZB W z ∧ Chg [] w W
def Nz (w W : World) (f z : Nat) (t : Fo) : Prop := CodeAt w W f t [z] ∧ ZB W z
section
variable {w W W' : World} {f z : Nat} {t : Fo}
theorem Zz.quiet (h : Zz w W z) (hc : Chg [] W W') : Zz w W' z := ⟨h.1.chg hc (by simp), h.2.then hc⟩
theorem Nz.quiet (h : Nz w W f z t) (hc : Chg [] W W') : Nz w W' f z t := ⟨h.1.quiet hc, h.2.chg hc (by simp)⟩
theorem Zz.new (h : Zz w W z) {n : Nat} (h1 : 1 ≤ n) (h2 : n ≤ 4096) : Calls Try.prog 11 #[.int .i64 (n : Nat)] W fun e W' => ∃ f, e = .returned (.tuple #[ptr f, .int .i64 0]) ∧ Nz w W' f z (Fo.new n) := by
  have hz : z < W.heap.size := Blk.lt h.1
  refine (new_any n h1 h2 W).mono ?_
  rintro e W' ⟨rfl, a, b⟩
  have := b.size
  have := h.2.size
  exact ⟨_, rfl, ⟨_, _, a, Sim.new h1 h2, fun k hk => by simp at hk; omega, h.2.then b, fun x hx => by simp at hx; subst hx; exact ⟨by simp; omega, by omega⟩⟩, h.1.chg b (by simp)⟩
theorem Nz.add (h : Nz w W f z t) (p : Int) : Calls Try.prog 27 #[ptr f, .int .i64 p] W fun e W' => e = .returned (.tuple #[.int .i64 (t.addN p), .int .i64 (t.addE p)]) ∧ Nz w W' f z (t.add p) := by
  refine (h.1.add p).mono ?_
  rintro e W' ⟨rfl, a, b⟩
  exact ⟨rfl, a, h.2.same (b z (by simp))⟩
theorem Nz.prune_no (h : Nz w W f z t) {i : Int} (hi : t.has i = false) : Calls Try.prog 16 #[ptr f, .int .i64 i] W fun e W' => e = .returned (.tuple #[.slice none 0 0, .int .i64 4]) ∧ Nz w W' f z t := by
  have hh := h
  obtain ⟨⟨S, c, h1, h2, h3, h4, h5⟩, h6⟩ := h
  exact (Go.Proofs.prune_no h1 h2 hi).mono fun e W' ⟨a, b⟩ => ⟨a, hh.quiet b⟩
theorem Nz.drop_no (h : Nz w W f z t) {i : Int} (hi : t.has i = false) : Calls Try.prog 26 #[ptr f, .int .i64 i] W fun e W' => e = .returned (.int .i64 4) ∧ Nz w W' f z t := by
  have hh := h
  obtain ⟨⟨S, c, h1, h2, h3, h4, h5⟩, h6⟩ := h
  exact (Go.Proofs.drop_no h1 h2 hi).mono fun e W' ⟨a, b⟩ => ⟨a, hh.quiet b⟩
theorem Nz.same1 (h : Nz w W f z t) (hs : t.size = 4096) : Calls Try.prog 18 #[ptr f, .pointer none] W fun e W' => e = .returned (.bool false) ∧ Nz w W' f z t := by
  have hh := h
  obtain ⟨⟨S, c, h1, h2, h3, h4, h5⟩, h6⟩ := h
  exact (same_one_nil h1 (by rw [h2.size]; exact hs)).mono fun e W' ⟨a, b⟩ => ⟨a, hh.quiet b⟩
theorem Nz.same2 (h : Nz w W f z t) (hs : t.size = 4096) : Calls Try.prog 18 #[.pointer none, ptr f] W fun e W' => e = .returned (.bool false) ∧ Nz w W' f z t := by
  have hh := h
  obtain ⟨⟨S, c, h1, h2, h3, h4, h5⟩, h6⟩ := h
  exact (same_nil_one h1 (by rw [h2.size]; exact hs)).mono fun e W' ⟨a, b⟩ => ⟨a, hh.quiet b⟩
end
theorem eql_ptr_nilN (o : Nat) (w : World) : (binOp .eql 25 (ptr o) (.pointer none)).run Try.prog w = .ok (.bool false) w := by kernel_rfl
theorem eql_nil_nilN (w : World) : (binOp .eql 25 (.pointer none) (.pointer none)).run Try.prog w = .ok (.bool true) w := by kernel_rfl
attribute [local go_sem] eql_ptr_nilN eql_nil_nilN
set_option maxHeartbeats 25600000 in
set_option maxRecDepth 100000 in
theorem nil_any (w : World) : Calls Try.prog 8 #[] w fun e w' => e = .returned (.bool true) ∧ Chg [] w w' := by
  obtain ⟨n1, n2, n3, n4, n5, n6, n7⟩ := new_facts 4095
  have HA1 := Lib.hid (fun W f z (hq : Nz w W f z (Fo.new 4096)) => show Calls Try.prog 27 #[ptr f, .int .i64 0] W (fun e W' => ∃ x, e = .returned (.tuple #[.int .i64 x, .int .i64 4]) ∧ Nz w W' f z (Fo.new 4096)) from (hq.add 0).mono fun e W' ⟨a, b⟩ => ⟨_, by rw [n1] at a; exact a, by rw [n2] at b; exact b⟩)
  have HA2 := Lib.hid (fun W f z (hq : Nz w W f z (Fo.new 4096)) => show Calls Try.prog 27 #[ptr f, .int .i64 (-7)] W (fun e W' => e = .returned (.tuple #[.int .i64 0, .int .i64 0]) ∧ Nz w W' f z ((Fo.new 4096).add (-7))) from (hq.add (-7)).mono fun e W' ⟨a, b⟩ => ⟨by rw [n3, n4] at a; exact a, b⟩)
  obtain ⟨t1, ht1⟩ : ∃ t1, t1 = (Fo.new 4096).add (-7) := ⟨_, rfl⟩
  rw [← ht1] at HA2
  have m5 : t1.has 1 = false := by rw [ht1]; exact n5
  have m6 : t1.has (-1) = false := by rw [ht1]; exact n6
  have m7 : t1.size = 4096 := by rw [ht1]; exact n7
  have HPN := Lib.hid (fun W f z (hq : Nz w W f z t1) => hq.prune_no m5)
  have HDN := Lib.hid (fun W f z (hq : Nz w W f z t1) => hq.drop_no m6)
  have HS2 := Lib.hid (fun W f z (hq : Nz w W f z t1) => hq.same1 m7)
  have HS3 := Lib.hid (fun W f z (hq : Nz w W f z t1) => hq.same2 m7)
  have HB1 := Lib.hid (fun W => show Calls Try.prog 11 #[.int .i64 0] W (fun e W' => e = .returned (.tuple #[.pointer none, .int .i64 2]) ∧ W = W') from new_bad (.inl (by omega)) W)
  have HB2 := Lib.hid (fun W => show Calls Try.prog 11 #[.int .i64 4097] W (fun e W' => e = .returned (.tuple #[.pointer none, .int .i64 2]) ∧ W = W') from new_bad (.inr (by omega)) W)
  have HB3 := Lib.hid (fun W z (hq : Zz w W z) => show Calls Try.prog 11 #[.int .i64 4096] W (fun e W' => ∃ f, e = .returned (.tuple #[ptr f, .int .i64 0]) ∧ Nz w W' f z (Fo.new 4096)) from hq.new (n := 4096) (by omega) (by omega))
  have HZ0 := Lib.hid (show Zz w (w.alloc (.cells #[.int .i64 0, .int .i64 0, .slice none 0 0, .slice none 0 0] 57)) w.heap.size from ⟨Blk.new w 57 _, (Chg.refl _ _).alloc _⟩)
  have HS1 := Lib.hid (fun W z (hq : ZB W z) => same_nil_zero hq)
  have HSZ := Lib.hid (fun W z (hq : ZB W z) => show Calls Try.prog 31 #[ptr z] W (fun e W' => e = .returned (.int .i64 0) ∧ W = W') from size_any hq.tree)
  clear n1 n2 n3 n4 n5 n6 n7 m5 m6 m7 ht1
  go_enter Try.func8, Try.ntmps8
  go_wp2_with (first
    | (go_at_call_of 27 (Value.pointer none); refine (add_nil _).mono ?_; rintro e w1 ⟨rfl, hc⟩; have HZ := Lib.hid (HZ0.out.quiet hc); clear hc)
    | (go_at_call_of 16 (Value.pointer (some ⟨w.heap.size, 0, none⟩)); refine (prune_zero HZ.out.1).mono ?_; rintro e w2 ⟨rfl, hc⟩; have HZ := Lib.hid (HZ.out.quiet hc); clear hc)
    | (go_at_call 25; refine (parent_nil _ _).mono ?_; rintro e w3 ⟨rfl, hc⟩; have HZ := Lib.hid (HZ.out.quiet hc); clear hc)
    | (go_at_call 11; refine (HB1.out _).mono ?_; rintro e w4 ⟨rfl, rfl⟩; clear HB1)
    | (go_at_call 11; refine (HB2.out _).mono ?_; rintro e w5 ⟨rfl, rfl⟩; clear HB2)
    | (go_at_call 11; refine (HB3.out _ _ HZ.out).mono ?_; rintro e w6 ⟨f, rfl, hq⟩; have HQ := Lib.hid hq; clear hq)
    | (go_at_call 27; refine (HA1.out _ _ _ HQ.out).mono ?_; rintro e w7 ⟨x7, rfl, hq⟩; have HQ := Lib.hid hq; clear hq HA1)
    | (go_at_call 27; refine (HA2.out _ _ _ HQ.out).mono ?_; rintro e w8 ⟨rfl, hq⟩; have HQ := Lib.hid hq; clear hq)
    | (go_at_call_of 16 (ptr f); refine (HPN.out _ _ _ HQ.out).mono ?_; rintro e w9 ⟨rfl, hq⟩; have HQ := Lib.hid hq; clear hq)
    | (go_at_call_of 26 (Value.pointer none); refine (drop_nil _).mono ?_; rintro e w10 ⟨rfl, hc⟩; have HQ := Lib.hid (HQ.out.quiet hc); clear hc)
    | (go_at_call_of 26 (ptr f); refine (HDN.out _ _ _ HQ.out).mono ?_; rintro e w11 ⟨rfl, hq⟩; have HQ := Lib.hid hq; clear hq)
    | (go_at_call_of 22 (Value.pointer none); refine (roots_nil _).mono ?_; rintro e w12 ⟨rfl, hc⟩; have HQ := Lib.hid (HQ.out.quiet hc); clear hc)
    | (go_at_call_of 22 (Value.pointer (some ⟨w.heap.size, 0, none⟩)); refine (roots_zero HQ.out.2).mono ?_; rintro e w13 ⟨rfl, hc⟩; have HQ := Lib.hid (HQ.out.quiet hc); clear hc)
    | (go_at_call 19; refine (kids_nil _).mono ?_; rintro e w14 ⟨rfl, hc⟩; have HQ := Lib.hid (HQ.out.quiet hc); clear hc)
    | (go_at_call 28; refine (desc_zero HQ.out.2).mono ?_; rintro e w15 ⟨rfl, hc⟩; have HQ := Lib.hid (HQ.out.quiet hc); clear hc)
    | (go_at_call 20; refine (len_nil _).mono ?_; rintro e w16 ⟨rfl, rfl⟩)
    | (go_at_call 31; refine (HSZ.out _ _ HQ.out.2).mono ?_; rintro e w17 ⟨rfl, rfl⟩)
    | (go_at_call 23; refine (has_nil _ _).mono ?_; rintro e w18 ⟨rfl, hc⟩; have HQ := Lib.hid (HQ.out.quiet hc); clear hc)
    | (go_at_call 24; refine (under_zero HQ.out.2).mono ?_; rintro e w19 ⟨rfl, hc⟩; have HQ := Lib.hid (HQ.out.quiet hc); clear hc)
    | (go_at_call_of 15 (Value.pointer none); refine (copy_nil _).mono ?_; rintro e w20 ⟨rfl, rfl⟩)
    | (go_at_call_of 15 (Value.pointer (some ⟨w.heap.size, 0, none⟩)); refine (copy_zero HQ.out.2.tree rfl).mono ?_; rintro e w21 ⟨rfl, rfl⟩)
    | (go_at_call_of 18 (Value.pointer (some ⟨w.heap.size, 0, none⟩)); refine (HS1.out _ _ HQ.out.2).mono ?_; rintro e w22 ⟨rfl, hc⟩; have HQ := Lib.hid (HQ.out.quiet hc); clear hc)
    | (go_at_call 18; refine (HS2.out _ _ _ HQ.out).mono ?_; rintro e w23 ⟨rfl, hq⟩; have HQ := Lib.hid hq; clear hq HS2)
    | (go_at_call 18; refine (HS3.out _ _ _ HQ.out).mono ?_; rintro e w24 ⟨rfl, hq⟩; have HQ := Lib.hid hq; clear hq)
    | (go_at_call 10; refine (known_any _).mono ?_; rintro e w25 ⟨rfl, hc⟩))
  go_ret
  exact ⟨rfl, HQ.out.1.chg0.then hc⟩
end Go.Proofs
end
section
namespace Go.Proofs.Ythgdkaldnaeijaa.treeNil
open Go.ChangeShapes Go.WideShapes Go.ChangeAt Go.RowKit
set_option linter.unusedVariables false

theorem own : ownKnob Try.prog.godebug = none := by kernel_rfl

set_option maxRecDepth 100000 in
theorem lifted (os : Os) (started : os.Started) (H : Type) (enc : TypeId × Value → H) :
    ReturnsInHanded {} Try.checked os 8 .any (Rows.treeNilSpec.pre6 enc Try.prog Try.f8 Rows.treeNilRow.domain false) (Rows.treeNilSpec.post enc Try.prog Try.f8 false true false false) := by
  refine returnsInHanded_of_change (C := Try.checked) own started (by kernel_rfl) Try.func8
    (ChangeSpec.witness6 (enc := enc) (C := Try.checked) false ⟨#[], #[], []⟩ 8 (by kernel_rfl) (by kernel_rfl) (by kernel_rfl) (by kernel_rfl)) ?_
  intro W base args ds gs before hval0 hW hcnd _
  have hval : ∀ (j : Nat) t v, Try.f8.params[j]? = some t → args[j]? = some v → Value.okWide Try.prog W .any base t v := hval0
  have hW' := hW
  obtain ⟨p, q, hA0, hV, rfl, hfz, hnd⟩ := hW
  have hA : DataW.TrodAll enc Try.prog W 0 (fun _ => true) true Try.f8.params.toList args.toList ds p := hA0
  rw [Try.params8] at hA hval
  obtain ⟨hnil, rfl, rfl⟩ := trodAll_nil hA
  obtain rfl : args = #[] := by cases args; simpa using hnil
  obtain ⟨rfl, rfl⟩ := trodVars_none hV
  clear hA0 hval0
  simp only [List.append_nil] at hW'
  refine (nil_any _).mono fun e W' ⟨he, hc⟩ => ?_
  have hg := hc.to_below
  subst he
  exact ⟨_, rfl, post_of_below (pa := []) (pv := []) hW' (fun _ _ _ => (trodAll_cons_mk (shut_bool Try.underlying4 _) trodAll_mk0)) (fun sp hsp => trodAll_mk0) (fun _ _ => rfl) (by simp)
    hg (ok_one (by kernel_rfl) rfl (okWide_bool_mk Try.underlying4 _))⟩

theorem over : Rows.treeNilRow.holds Try.pinned (OpenSpec.ofChange Rows.treeNilSpec) :=
  OpenClaim.holds_of_wide 8 Try.f8 rfl rfl rfl rfl rfl rfl rfl ⟨rfl, rfl, rfl, rfl, rfl⟩ rfl rfl rfl rfl rfl (by kernel_rfl) Try.func8 (by kernel_rfl)
    (of_decide_eq_true (by kernel_rfl)) (by unfold Func.isWrapper; first | (rw [if_pos (by decide +kernel)]; kernel_rfl) | (rw [if_neg (by decide +kernel)]; exact ⟨rfl, rfl⟩))
    (fun os started H enc _ => lifted os started H enc)

/-- ████ THE STATEMENT ████ -/
theorem proved : Rows.TreeNilSaid :=
  over
#print axioms proved
end Go.Proofs.Ythgdkaldnaeijaa.treeNil
end
