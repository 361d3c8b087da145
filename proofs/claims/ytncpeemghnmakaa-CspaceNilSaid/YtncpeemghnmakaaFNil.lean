/-
  Proved: what is answered of a space that is not there, and of a zero one, and which capabilities may be. No conditions.
-/
import Derived.Test.YtncpeemghnmakaaM11
import Derived.Test.YtncpeemghnmakaaM12
import Derived.Deep.RegionWith
import Derived.Test.YtncpeemghnmakaaRows
import Derived.WalkKit
import Derived.Below
import Derived.ChangeSame
import Derived.ProofKit
import Derived.OpenShut
section
namespace Go.Proofs
open Go.RowKit
set_option linter.unusedVariables false
set_option linter.unusedSimpArgs false

/-! ### What is answered of no space, and of a zero one -/
section
variable {w : World}
set_option maxHeartbeats 3200000 in
set_option maxRecDepth 100000 in
theorem free_none {pt : Option Addr} (h : NoS w (.pointer pt)) (p : Pt) : Calls Try.prog 32 #[.pointer pt, .int .i64 p.g, .int .i64 p.s] w fun e w' => e = .returned (.int .i64 1) ∧ Chg [] w w' := by
  have H1 := Lib.hid (fun W (hc : Chg [] w W) => there_any (h.quiet hc).non)
  have H2 := Lib.hid (fun W (hc : Chg [] w W) => whas_no pt p W)
  have H3 := Lib.hid (fun W (hc : Chg [] w W) => wempty_no pt p W)
  have hk : ∀ W, Chg [] (w.alloc (.cells #[.int .i64 p.g, .int .i64 p.s] 94)) W → W.cell? ⟨w.heap.size, 0, none⟩ = some (.int .i64 p.g) ∧ W.cell? ⟨w.heap.size, 1, none⟩ = some (.int .i64 p.s) := fun W hc =>
    ⟨((Blk.new w 94 #[.int .i64 p.g, .int .i64 p.s]).quiet hc).cell 0, ((Blk.new w 94 #[.int .i64 p.g, .int .i64 p.s]).quiet hc).cell 1⟩
  have HK := Lib.hid hk
  obtain ⟨z, hz⟩ : ∃ z : Int, z = 1 := ⟨_, rfl⟩
  have HZ := Lib.hid hz
  rw [← hz]
  clear h hk hz
  go_enter Try.func32, Try.ntmps32
  go_wp2
  go_region_held3 (fun w' => w'.cell? ⟨w.heap.size, 0, none⟩ = some (.int .i64 p.g) ∧ w'.cell? ⟨w.heap.size, 1, none⟩ = some (.int .i64 p.s))
    (first | go_keep)
    (first
      | (go_at_call 55; refine (H1.out _ ((Chg.refl _ _).alloc _).drew).mono ?_; rintro e w1 ⟨F1, rfl, hc, hF1⟩; have HC1 := Lib.hid (((Chg.refl _ _).drew).then hc : Chg [] (w.alloc (.cells #[.int .i64 p.g, .int .i64 p.s] 94)) w1); have HF1 := Lib.hid hF1; obtain ⟨k0, k1⟩ := HK.out _ HC1.out; clear hc hF1)
      | (go_at_call 56; refine (H2.out _ (((Chg.refl _ _).alloc _).then HC1.out)).mono ?_; rintro e w2 ⟨F2, rfl, hc, hF2⟩; have HC2 := Lib.hid (HC1.out.then hc); have HF2 := Lib.hid hF2; have HD2 := Lib.hid hc; obtain ⟨m0, m1⟩ := HK.out _ HC2.out; clear hc hF2)
      | (go_at_call 66; refine (H3.out _ (((Chg.refl _ _).alloc _).then HC2.out)).mono ?_; rintro e w3 ⟨F3, rfl, hc, hF3⟩; have HC3 := Lib.hid (HC2.out.then hc); have HF3 := Lib.hid hF3; have HD3 := Lib.hid hc; obtain ⟨n0, n1⟩ := HK.out _ HC3.out; clear hc hF3)
      | (go_at_call 54; refine (refuse [(1, F1, false), (9, F2, true), (14, F3, true)] (n := 3) rfl (by decide) rfl ⟨(HF1.out trivial).quiet (HD2.out.then HD3.out), (fun e => nomatch e)⟩).mono ?_; rintro e w4 ⟨he, hc⟩; replace he := he.trans (show _ = Ending.returned (.int .i64 z) by rw [HZ.out]; rfl); subst he; have HC4 := Lib.hid (HC3.out.then hc); obtain ⟨o0, o1⟩ := HK.out _ HC4.out; clear hc))
  all_goals
    go_wp2
    go_ret
    exact ⟨rfl, ((Chg.refl _ _).alloc _).then HC4.out⟩
set_option maxHeartbeats 3200000 in
set_option maxRecDepth 100000 in
theorem root_none {pt : Option Addr} (h : NoS w (.pointer pt)) (p : Pt) (c : Cp) : Calls Try.prog 29 #[.pointer pt, .int .i64 p.g, .int .i64 p.s, c.val] w fun e w' => e = .returned (.int .i64 1) ∧ Chg [] w w' := by
  have H1 := Lib.hid (fun W (hc : Chg [] w W) => there_any (h.quiet hc).non)
  have H2 := Lib.hid (fun W (hc : Chg [] w W) => whas_no pt p W)
  have H3 := Lib.hid (fun W (hc : Chg [] w W) => wempty_no pt p W)
  have H4 := Lib.hid (fun W (hc : Chg [] w W) => wmay_any c W)
  have H5 := Lib.hid (fun W (hc : Chg [] w W) => wroom_no pt W)
  have HK := Lib.hid (show ∀ W, Chg [] ((w.alloc (.cells c.arr 39)).alloc (.cells #[.int .i64 p.g, .int .i64 p.s] 94)) W → W.cell? ⟨w.heap.size, 0, none⟩ = some (.int .i64 c.kind) ∧ W.cell? ⟨w.heap.size, 1, none⟩ = some (.int .i64 c.idx) ∧ W.cell? ⟨w.heap.size, 2, none⟩ = some (.int .u64 c.gen) ∧ W.cell? ⟨w.heap.size, 3, none⟩ = some (.int .u8 (c.rts : Nat)) ∧ W.cell? ⟨w.heap.size + 1, 0, none⟩ = some (.int .i64 p.g) ∧ W.cell? ⟨w.heap.size + 1, 1, none⟩ = some (.int .i64 p.s) from fun W hc => by
    have r0 := ((((by have := Blk.new w 39 c.arr; simpa using this : Blk (w.alloc (.cells c.arr 39)) (w.heap.size) 39 c.arr).alloc _)).quiet hc).four
    have r1 := (((by have := Blk.new (w.alloc (.cells c.arr 39)) 94 #[.int .i64 p.g, .int .i64 p.s]; simpa using this : Blk ((w.alloc (.cells c.arr 39)).alloc (.cells #[.int .i64 p.g, .int .i64 p.s] 94)) (w.heap.size + 1) 94 #[.int .i64 p.g, .int .i64 p.s])).quiet hc).two
    exact ⟨r0.1, r0.2.1, r0.2.2.1, r0.2.2.2, r1.1, r1.2⟩)
  have HW0 := Lib.hid (show Chg [] w ((w.alloc (.cells c.arr 39)).alloc (.cells #[.int .i64 p.g, .int .i64 p.s] 94)) from (((Chg.refl _ _).alloc _).alloc _))
  obtain ⟨z, hzz⟩ : ∃ z : Int, z = 1 := ⟨_, rfl⟩
  have HZ := Lib.hid hzz
  rw [← hzz]
  have hz0 : (z == 0) = false := by rw [hzz]; rfl
  clear h hzz
  go_enter Try.func29, Try.ntmps29
  go_wp2
  go_region_held3 (fun w' => w'.cell? ⟨w.heap.size, 0, none⟩ = some (.int .i64 c.kind) ∧ w'.cell? ⟨w.heap.size, 1, none⟩ = some (.int .i64 c.idx) ∧ w'.cell? ⟨w.heap.size, 2, none⟩ = some (.int .u64 c.gen) ∧ w'.cell? ⟨w.heap.size, 3, none⟩ = some (.int .u8 (c.rts : Nat)) ∧ w'.cell? ⟨w.heap.size + 1, 0, none⟩ = some (.int .i64 p.g) ∧ w'.cell? ⟨w.heap.size + 1, 1, none⟩ = some (.int .i64 p.s))
    (first | go_keep)
    (first
      | (go_at_call 55; refine (H1.out _ HW0.out.drew).mono ?_; rintro e w1 ⟨F1, rfl, hc, hF⟩; have HC1 := Lib.hid (((Chg.refl _ _).drew).then hc : Chg [] ((w.alloc (.cells c.arr 39)).alloc (.cells #[.int .i64 p.g, .int .i64 p.s] 94)) w1); have HF1 := Lib.hid hF; have HD1 := Lib.hid hc; obtain ⟨k1_0, k1_1, k1_2, k1_3, k1_4, k1_5⟩ := HK.out _ HC1.out; clear hc hF)
      | (go_at_call 56; refine (H2.out _ (HW0.out.then HC1.out)).mono ?_; rintro e w2 ⟨F2, rfl, hc, hF⟩; have HC2 := Lib.hid (HC1.out.then hc); have HF2 := Lib.hid hF; have HD2 := Lib.hid hc; obtain ⟨k2_0, k2_1, k2_2, k2_3, k2_4, k2_5⟩ := HK.out _ HC2.out; clear hc hF)
      | (go_at_call 66; refine (H3.out _ (HW0.out.then HC2.out)).mono ?_; rintro e w3 ⟨F3, rfl, hc, hF⟩; have HC3 := Lib.hid (HC2.out.then hc); have HF3 := Lib.hid hF; have HD3 := Lib.hid hc; obtain ⟨k3_0, k3_1, k3_2, k3_3, k3_4, k3_5⟩ := HK.out _ HC3.out; clear hc hF)
      | (go_at_call 68; refine (H4.out _ (HW0.out.then HC3.out)).mono ?_; rintro e w4 ⟨F4, rfl, hc, hF⟩; have HC4 := Lib.hid (HC3.out.then hc); have HF4 := Lib.hid hF; have HD4 := Lib.hid hc; obtain ⟨k4_0, k4_1, k4_2, k4_3, k4_4, k4_5⟩ := HK.out _ HC4.out; clear hc hF)
      | (go_at_call 69; refine (H5.out _ (HW0.out.then HC4.out)).mono ?_; rintro e w5 ⟨F5, rfl, hc, hF⟩; have HC5 := Lib.hid (HC4.out.then hc); have HF5 := Lib.hid hF; have HD5 := Lib.hid hc; obtain ⟨k5_0, k5_1, k5_2, k5_3, k5_4, k5_5⟩ := HK.out _ HC5.out; clear hc hF)
      | (go_at_call 54; refine (refuse [(1, F1, false), (9, F2, true), (14, F3, true), (2, F4, true), (3, F5, true)] (n := 5) rfl (by decide) rfl ⟨(HF1.out trivial).quiet (((HD2.out.then HD3.out).then HD4.out).then HD5.out), (fun e => nomatch e)⟩).mono ?_; rintro e w6 ⟨he, hc⟩; replace he := he.trans (show _ = Ending.returned (.int .i64 z) by rw [HZ.out]; rfl); subst he; have HC6 := Lib.hid (HC5.out.then hc); obtain ⟨k6_0, k6_1, k6_2, k6_3, k6_4, k6_5⟩ := HK.out _ HC6.out; clear hc))
  all_goals
    go_wp2
    go_ret
    exact ⟨rfl, HW0.out.then HC6.out⟩
set_option maxHeartbeats 3200000 in
set_option maxRecDepth 100000 in
theorem get_none {pt : Option Addr} (h : NoS w (.pointer pt)) (p : Pt) : Calls Try.prog 18 #[.pointer pt, .int .i64 p.g, .int .i64 p.s] w fun e w' => e = .returned (.tuple #[cp0.val, .int .i64 1]) ∧ Chg [] w w' := by
  have H1 := Lib.hid (fun W (hc : Chg [] w W) => there_any (h.quiet hc).non)
  have H2 := Lib.hid (fun W (hc : Chg [] w W) => whas_no pt p W)
  have H3 := Lib.hid (fun W (hc : Chg [] w W) => wfilled_no pt p W)
  have HK := Lib.hid (show ∀ W, Chg [] ((w.alloc (.cells #[.int .i64 0, .int .i64 0, .int .u64 0, .int .u8 0] 39)).alloc (.cells #[.int .i64 p.g, .int .i64 p.s] 94)) W → W.cell? ⟨w.heap.size, 0, none⟩ = some (.int .i64 0) ∧ W.cell? ⟨w.heap.size, 1, none⟩ = some (.int .i64 0) ∧ W.cell? ⟨w.heap.size, 2, none⟩ = some (.int .u64 0) ∧ W.cell? ⟨w.heap.size, 3, none⟩ = some (.int .u8 0) ∧ W.cell? ⟨w.heap.size + 1, 0, none⟩ = some (.int .i64 p.g) ∧ W.cell? ⟨w.heap.size + 1, 1, none⟩ = some (.int .i64 p.s) from fun W hc => by
    have r0 : Blk W w.heap.size 39 #[.int .i64 0, .int .i64 0, .int .u64 0, .int .u8 0] := ((Blk.new w 39 _).alloc _).quiet hc
    have r1 := (((by have := Blk.new (w.alloc (.cells #[.int .i64 0, .int .i64 0, .int .u64 0, .int .u8 0] 39)) 94 #[.int .i64 p.g, .int .i64 p.s]; simpa using this : Blk ((w.alloc (.cells #[.int .i64 0, .int .i64 0, .int .u64 0, .int .u8 0] 39)).alloc (.cells #[.int .i64 p.g, .int .i64 p.s] 94)) (w.heap.size + 1) 94 #[.int .i64 p.g, .int .i64 p.s])).quiet hc).two
    exact ⟨r0.cell 0, r0.cell 1, r0.cell 2, r0.cell 3, r1.1, r1.2⟩)
  have HW0 := Lib.hid (show Chg [] w ((w.alloc (.cells #[.int .i64 0, .int .i64 0, .int .u64 0, .int .u8 0] 39)).alloc (.cells #[.int .i64 p.g, .int .i64 p.s] 94)) from (((Chg.refl _ _).alloc _).alloc _))
  have HBX := Lib.hid (show Blk ((w.alloc (.cells #[.int .i64 0, .int .i64 0, .int .u64 0, .int .u8 0] 39)).alloc (.cells #[.int .i64 p.g, .int .i64 p.s] 94)) w.heap.size 39 #[.int .i64 0, .int .i64 0, .int .u64 0, .int .u8 0] from (Blk.new w 39 _).alloc _)
  obtain ⟨z, hzz⟩ : ∃ z : Int, z = 1 := ⟨_, rfl⟩
  have HZ := Lib.hid hzz
  rw [← hzz]
  have hz0 : (z != 0) = true := by rw [hzz]; rfl
  clear h hzz
  go_enter Try.func18, Try.ntmps18
  go_wp2
  go_region_held3 (fun w' => w'.cell? ⟨w.heap.size, 0, none⟩ = some (.int .i64 0) ∧ w'.cell? ⟨w.heap.size, 1, none⟩ = some (.int .i64 0) ∧ w'.cell? ⟨w.heap.size, 2, none⟩ = some (.int .u64 0) ∧ w'.cell? ⟨w.heap.size, 3, none⟩ = some (.int .u8 0) ∧ w'.cell? ⟨w.heap.size + 1, 0, none⟩ = some (.int .i64 p.g) ∧ w'.cell? ⟨w.heap.size + 1, 1, none⟩ = some (.int .i64 p.s))
    (first | go_keep)
    (first
      | (go_at_call 55; refine (H1.out _ HW0.out.drew).mono ?_; rintro e w1 ⟨F1, rfl, hc, hF⟩; have HC1 := Lib.hid (((Chg.refl _ _).drew).then hc : Chg [] ((w.alloc (.cells #[.int .i64 0, .int .i64 0, .int .u64 0, .int .u8 0] 39)).alloc (.cells #[.int .i64 p.g, .int .i64 p.s] 94)) w1); have HF1 := Lib.hid hF; have HD1 := Lib.hid hc; obtain ⟨k1_0, k1_1, k1_2, k1_3, k1_4, k1_5⟩ := HK.out _ HC1.out; clear hc hF)
      | (go_at_call 56; refine (H2.out _ (HW0.out.then HC1.out)).mono ?_; rintro e w2 ⟨F2, rfl, hc, hF⟩; have HC2 := Lib.hid (HC1.out.then hc); have HF2 := Lib.hid hF; have HD2 := Lib.hid hc; obtain ⟨k2_0, k2_1, k2_2, k2_3, k2_4, k2_5⟩ := HK.out _ HC2.out; clear hc hF)
      | (go_at_call 57; refine (H3.out _ (HW0.out.then HC2.out)).mono ?_; rintro e w3 ⟨F3, rfl, hc, hF⟩; have HC3 := Lib.hid (HC2.out.then hc); have HF3 := Lib.hid hF; have HD3 := Lib.hid hc; obtain ⟨k3_0, k3_1, k3_2, k3_3, k3_4, k3_5⟩ := HK.out _ HC3.out; clear hc hF)
      | (go_at_call 54; refine (refuse [(1, F1, false), (9, F2, true), (10, F3, true)] (n := 3) rfl (by decide) rfl ⟨(HF1.out trivial).quiet (HD2.out.then HD3.out), (fun e => nomatch e)⟩).mono ?_; rintro e w4 ⟨he, hc⟩; replace he := he.trans (show _ = Ending.returned (.int .i64 z) by rw [HZ.out]; rfl); subst he; have HC4 := Lib.hid (HC3.out.then hc); obtain ⟨k4_0, k4_1, k4_2, k4_3, k4_4, k4_5⟩ := HK.out _ HC4.out; clear hc))
  all_goals
    have hbx := HBX.out.quiet HC4.out
    have f0 := hbx.frozen 0
    have f1 := hbx.frozen 1
    have f2 := hbx.frozen 2
    have f3 := hbx.frozen 3
    have lb := hbx.lt
    have q0 : (w4.setCell ⟨w.heap.size, 0, none⟩ (.int .i64 0)).cell? ⟨w.heap.size, 0, none⟩ = some (.int .i64 0) := (hbx.set_ 0 (.int .i64 0)).cell 0
    have q1 : ((w4.setCell ⟨w.heap.size, 0, none⟩ (.int .i64 0)).setCell ⟨w.heap.size, 1, none⟩ (.int .i64 0)).cell? ⟨w.heap.size, 1, none⟩ = some (.int .i64 0) := ((hbx.set_ 0 (.int .i64 0)).set_ 1 (.int .i64 0)).cell 1
    have q2 : (((w4.setCell ⟨w.heap.size, 0, none⟩ (.int .i64 0)).setCell ⟨w.heap.size, 1, none⟩ (.int .i64 0)).setCell ⟨w.heap.size, 2, none⟩ (.int .u64 0)).cell? ⟨w.heap.size, 2, none⟩ = some (.int .u64 0) := (((hbx.set_ 0 (.int .i64 0)).set_ 1 (.int .i64 0)).set_ 2 (.int .u64 0)).cell 2
    have q3 : ((((w4.setCell ⟨w.heap.size, 0, none⟩ (.int .i64 0)).setCell ⟨w.heap.size, 1, none⟩ (.int .i64 0)).setCell ⟨w.heap.size, 2, none⟩ (.int .u64 0)).setCell ⟨w.heap.size, 3, none⟩ (.int .u8 0)).cell? ⟨w.heap.size, 3, none⟩ = some (.int .u8 0) := ((((hbx.set_ 0 (.int .i64 0)).set_ 1 (.int .i64 0)).set_ 2 (.int .u64 0)).set_ 3 (.int .u8 0)).cell 3
    have HCW := Lib.hid (HW0.out.then HC4.out)
    clear hbx
    go_wp2
    refine bodyPost_ret (v := .tuple #[cp0.val, .int .i64 z]) ?_ rfl ⟨rfl, ?_⟩
    · simp [results, Try.results18, go_sem, cp0, q0, q1, q2, q3]
    · repeat' (first | with_reducible exact HCW.out | with_reducible apply Chg.drew | with_reducible apply Chg.alloc | with_reducible apply Chg.setCell | (with_reducible refine Or.inr ?_; dsimp only; omega))
set_option maxHeartbeats 3200000 in
set_option maxRecDepth 100000 in
theorem delete_none {pt : Option Addr} (h : NoS w (.pointer pt)) (p : Pt) : Calls Try.prog 33 #[.pointer pt, .int .i64 p.g, .int .i64 p.s] w fun e w' => e = .returned (.int .i64 1) ∧ Chg [] w w' := by
  have H1 := Lib.hid (fun W (hc : Chg [] w W) => there_any (h.quiet hc).non)
  have H2 := Lib.hid (fun W (hc : Chg [] w W) => whas_no pt p W)
  have H3 := Lib.hid (fun W (hc : Chg [] w W) => wfilled_no pt p W)
  have HK := Lib.hid (show ∀ W, Chg [] (w.alloc (.cells #[.int .i64 p.g, .int .i64 p.s] 94)) W → W.cell? ⟨w.heap.size, 0, none⟩ = some (.int .i64 p.g) ∧ W.cell? ⟨w.heap.size, 1, none⟩ = some (.int .i64 p.s) from fun W hc => by
    have r0 := (((by have := Blk.new w 94 #[.int .i64 p.g, .int .i64 p.s]; simpa using this : Blk (w.alloc (.cells #[.int .i64 p.g, .int .i64 p.s] 94)) (w.heap.size) 94 #[.int .i64 p.g, .int .i64 p.s])).quiet hc).two
    exact ⟨r0.1, r0.2⟩)
  have HW0 := Lib.hid (show Chg [] w (w.alloc (.cells #[.int .i64 p.g, .int .i64 p.s] 94)) from ((Chg.refl _ _).alloc _))
  obtain ⟨z, hzz⟩ : ∃ z : Int, z = 1 := ⟨_, rfl⟩
  have HZ := Lib.hid hzz
  rw [← hzz]
  have hz0 : (z == 0) = false := by rw [hzz]; rfl
  clear h hzz
  go_enter Try.func33, Try.ntmps33
  go_wp2
  go_region_held3 (fun w' => w'.cell? ⟨w.heap.size, 0, none⟩ = some (.int .i64 p.g) ∧ w'.cell? ⟨w.heap.size, 1, none⟩ = some (.int .i64 p.s))
    (first | go_keep)
    (first
      | (go_at_call 55; refine (H1.out _ HW0.out.drew).mono ?_; rintro e w1 ⟨F1, rfl, hc, hF⟩; have HC1 := Lib.hid (((Chg.refl _ _).drew).then hc : Chg [] (w.alloc (.cells #[.int .i64 p.g, .int .i64 p.s] 94)) w1); have HF1 := Lib.hid hF; have HD1 := Lib.hid hc; obtain ⟨k1_0, k1_1⟩ := HK.out _ HC1.out; clear hc hF)
      | (go_at_call 56; refine (H2.out _ (HW0.out.then HC1.out)).mono ?_; rintro e w2 ⟨F2, rfl, hc, hF⟩; have HC2 := Lib.hid (HC1.out.then hc); have HF2 := Lib.hid hF; have HD2 := Lib.hid hc; obtain ⟨k2_0, k2_1⟩ := HK.out _ HC2.out; clear hc hF)
      | (go_at_call 57; refine (H3.out _ (HW0.out.then HC2.out)).mono ?_; rintro e w3 ⟨F3, rfl, hc, hF⟩; have HC3 := Lib.hid (HC2.out.then hc); have HF3 := Lib.hid hF; have HD3 := Lib.hid hc; obtain ⟨k3_0, k3_1⟩ := HK.out _ HC3.out; clear hc hF)
      | (go_at_call 54; refine (refuse [(1, F1, false), (9, F2, true), (10, F3, true)] (n := 3) rfl (by decide) rfl ⟨(HF1.out trivial).quiet (HD2.out.then HD3.out), (fun e => nomatch e)⟩).mono ?_; rintro e w4 ⟨he, hc⟩; replace he := he.trans (show _ = Ending.returned (.int .i64 z) by rw [HZ.out]; rfl); subst he; have HC4 := Lib.hid (HC3.out.then hc); obtain ⟨k4_0, k4_1⟩ := HK.out _ HC4.out; clear hc))
  all_goals
    go_wp2
    go_ret
    exact ⟨rfl, HW0.out.then HC4.out⟩
set_option maxHeartbeats 3200000 in
set_option maxRecDepth 100000 in
theorem revoke_none {pt : Option Addr} (h : NoS w (.pointer pt)) (p : Pt) : Calls Try.prog 21 #[.pointer pt, .int .i64 p.g, .int .i64 p.s] w fun e w' => e = .returned (.tuple #[.int .i64 0, .int .i64 1]) ∧ Chg [] w w' := by
  have H1 := Lib.hid (fun W (hc : Chg [] w W) => there_any (h.quiet hc).non)
  have H2 := Lib.hid (fun W (hc : Chg [] w W) => whas_no pt p W)
  have H3 := Lib.hid (fun W (hc : Chg [] w W) => wfilled_no pt p W)
  have HK := Lib.hid (show ∀ W, Chg [] (w.alloc (.cells #[.int .i64 p.g, .int .i64 p.s] 94)) W → W.cell? ⟨w.heap.size, 0, none⟩ = some (.int .i64 p.g) ∧ W.cell? ⟨w.heap.size, 1, none⟩ = some (.int .i64 p.s) from fun W hc => by
    have r0 := (((by have := Blk.new w 94 #[.int .i64 p.g, .int .i64 p.s]; simpa using this : Blk (w.alloc (.cells #[.int .i64 p.g, .int .i64 p.s] 94)) (w.heap.size) 94 #[.int .i64 p.g, .int .i64 p.s])).quiet hc).two
    exact ⟨r0.1, r0.2⟩)
  have HW0 := Lib.hid (show Chg [] w (w.alloc (.cells #[.int .i64 p.g, .int .i64 p.s] 94)) from ((Chg.refl _ _).alloc _))
  obtain ⟨z, hzz⟩ : ∃ z : Int, z = 1 := ⟨_, rfl⟩
  have HZ := Lib.hid hzz
  rw [← hzz]
  have hz0 : (z != 0) = true := by rw [hzz]; rfl
  clear h hzz
  go_enter Try.func21, Try.ntmps21
  go_wp2
  go_region_held3 (fun w' => w'.cell? ⟨w.heap.size, 0, none⟩ = some (.int .i64 p.g) ∧ w'.cell? ⟨w.heap.size, 1, none⟩ = some (.int .i64 p.s))
    (first | go_keep)
    (first
      | (go_at_call 55; refine (H1.out _ HW0.out.drew).mono ?_; rintro e w1 ⟨F1, rfl, hc, hF⟩; have HC1 := Lib.hid (((Chg.refl _ _).drew).then hc : Chg [] (w.alloc (.cells #[.int .i64 p.g, .int .i64 p.s] 94)) w1); have HF1 := Lib.hid hF; have HD1 := Lib.hid hc; obtain ⟨k1_0, k1_1⟩ := HK.out _ HC1.out; clear hc hF)
      | (go_at_call 56; refine (H2.out _ (HW0.out.then HC1.out)).mono ?_; rintro e w2 ⟨F2, rfl, hc, hF⟩; have HC2 := Lib.hid (HC1.out.then hc); have HF2 := Lib.hid hF; have HD2 := Lib.hid hc; obtain ⟨k2_0, k2_1⟩ := HK.out _ HC2.out; clear hc hF)
      | (go_at_call 57; refine (H3.out _ (HW0.out.then HC2.out)).mono ?_; rintro e w3 ⟨F3, rfl, hc, hF⟩; have HC3 := Lib.hid (HC2.out.then hc); have HF3 := Lib.hid hF; have HD3 := Lib.hid hc; obtain ⟨k3_0, k3_1⟩ := HK.out _ HC3.out; clear hc hF)
      | (go_at_call 54; refine (refuse [(1, F1, false), (9, F2, true), (10, F3, true)] (n := 3) rfl (by decide) rfl ⟨(HF1.out trivial).quiet (HD2.out.then HD3.out), (fun e => nomatch e)⟩).mono ?_; rintro e w4 ⟨he, hc⟩; replace he := he.trans (show _ = Ending.returned (.int .i64 z) by rw [HZ.out]; rfl); subst he; have HC4 := Lib.hid (HC3.out.then hc); obtain ⟨k4_0, k4_1⟩ := HK.out _ HC4.out; clear hc))
  all_goals
    go_wp2
    go_ret2
    exact ⟨rfl, HW0.out.then HC4.out⟩
set_option maxHeartbeats 3200000 in
set_option maxRecDepth 100000 in
theorem move_none {pt : Option Addr} (h : NoS w (.pointer pt)) (p q : Pt) (hpq : q.g = p.g) : Calls Try.prog 25 #[.pointer pt, .int .i64 p.g, .int .i64 p.s, .int .i64 q.s] w fun e w' => e = .returned (.int .i64 1) ∧ Chg [] w w' := by
  obtain ⟨qg, qs⟩ := q
  simp only at hpq
  subst hpq
  have H1 := Lib.hid (fun W (hc : Chg [] w W) => there_any (h.quiet hc).non)
  have H2 := Lib.hid (fun W (hc : Chg [] w W) => whas_no pt p W)
  have H3 := Lib.hid (fun W (hc : Chg [] w W) => wfilled_no pt p W)
  have H4 := Lib.hid (fun W (hc : Chg [] w W) => whas_no pt (⟨p.g, qs⟩ : Pt) W)
  have H5 := Lib.hid (fun W (hc : Chg [] w W) => wempty_no pt (⟨p.g, qs⟩ : Pt) W)
  have HK := Lib.hid (show ∀ W, Chg [] ((w.alloc (.cells #[.int .i64 p.g, .int .i64 p.s] 94)).alloc (.cells #[.int .i64 p.g, .int .i64 qs] 94)) W → W.cell? ⟨w.heap.size, 0, none⟩ = some (.int .i64 p.g) ∧ W.cell? ⟨w.heap.size, 1, none⟩ = some (.int .i64 p.s) ∧ W.cell? ⟨w.heap.size + 1, 0, none⟩ = some (.int .i64 p.g) ∧ W.cell? ⟨w.heap.size + 1, 1, none⟩ = some (.int .i64 qs) from fun W hc => by
    have r0 := Blk.two (p := p) ((((by have := Blk.new w 94 #[.int .i64 p.g, .int .i64 p.s]; simpa using this : Blk (w.alloc (.cells #[.int .i64 p.g, .int .i64 p.s] 94)) (w.heap.size) 94 #[.int .i64 p.g, .int .i64 p.s]).alloc _)).quiet hc)
    have r1 := Blk.two (p := (⟨p.g, qs⟩ : Pt)) (((by have := Blk.new (w.alloc (.cells #[.int .i64 p.g, .int .i64 p.s] 94)) 94 #[.int .i64 p.g, .int .i64 qs]; simpa using this : Blk ((w.alloc (.cells #[.int .i64 p.g, .int .i64 p.s] 94)).alloc (.cells #[.int .i64 p.g, .int .i64 qs] 94)) (w.heap.size + 1) 94 #[.int .i64 p.g, .int .i64 qs])).quiet hc)
    exact ⟨r0.1, r0.2, r1.1, r1.2⟩)
  obtain ⟨k0_0, k0_1, k0_2, k0_3⟩ := HK.out _ (Chg.refl _ _).drew
  have HW0 := Lib.hid (show Chg [] w ((w.alloc (.cells #[.int .i64 p.g, .int .i64 p.s] 94)).alloc (.cells #[.int .i64 p.g, .int .i64 qs] 94)) from (((Chg.refl _ _).alloc _).alloc _))
  obtain ⟨z, hzz⟩ : ∃ z : Int, z = 1 := ⟨_, rfl⟩
  have HZ := Lib.hid hzz
  rw [← hzz]
  have hz0 : (z == 0) = false := by rw [hzz]; rfl
  clear h hzz
  go_enter Try.func25, Try.ntmps25
  have tok2 : True := trivial
  go_wp2
  go_region_held3 (fun w' => w'.cell? ⟨w.heap.size, 0, none⟩ = some (.int .i64 p.g) ∧ w'.cell? ⟨w.heap.size, 1, none⟩ = some (.int .i64 p.s) ∧ w'.cell? ⟨w.heap.size + 1, 0, none⟩ = some (.int .i64 p.g) ∧ w'.cell? ⟨w.heap.size + 1, 1, none⟩ = some (.int .i64 qs))
    (first | go_keep)
    (first
      | (go_at_call 55; refine (H1.out _ HW0.out.drew).mono ?_; rintro e w1 ⟨F1, rfl, hc, hF⟩; have HC1 := Lib.hid (((Chg.refl _ _).drew).then hc : Chg [] ((w.alloc (.cells #[.int .i64 p.g, .int .i64 p.s] 94)).alloc (.cells #[.int .i64 p.g, .int .i64 qs] 94)) w1); have HF1 := Lib.hid hF; have HD1 := Lib.hid hc; obtain ⟨k1_0, k1_1, k1_2, k1_3⟩ := HK.out _ HC1.out; clear hc hF)
      | (go_at_call 56; have _t := tok2; refine (H2.out _ (HW0.out.then HC1.out)).mono ?_; rintro e w2 ⟨F2, rfl, hc, hF⟩; have HC2 := Lib.hid (HC1.out.then hc); have HF2 := Lib.hid hF; have HD2 := Lib.hid hc; obtain ⟨k2_0, k2_1, k2_2, k2_3⟩ := HK.out _ HC2.out; clear hc hF tok2)
      | (go_at_call 57; refine (H3.out _ (HW0.out.then HC2.out)).mono ?_; rintro e w3 ⟨F3, rfl, hc, hF⟩; have HC3 := Lib.hid (HC2.out.then hc); have HF3 := Lib.hid hF; have HD3 := Lib.hid hc; obtain ⟨k3_0, k3_1, k3_2, k3_3⟩ := HK.out _ HC3.out; clear hc hF)
      | (go_at_call 56; refine (H4.out _ (HW0.out.then HC3.out)).mono ?_; rintro e w4 ⟨F4, rfl, hc, hF⟩; have HC4 := Lib.hid (HC3.out.then hc); have HF4 := Lib.hid hF; have HD4 := Lib.hid hc; obtain ⟨k4_0, k4_1, k4_2, k4_3⟩ := HK.out _ HC4.out; clear hc hF)
      | (go_at_call 66; refine (H5.out _ (HW0.out.then HC4.out)).mono ?_; rintro e w5 ⟨F5, rfl, hc, hF⟩; have HC5 := Lib.hid (HC4.out.then hc); have HF5 := Lib.hid hF; have HD5 := Lib.hid hc; obtain ⟨k5_0, k5_1, k5_2, k5_3⟩ := HK.out _ HC5.out; clear hc hF)
      | (go_at_call 54; refine (refuse [(1, F1, false), (9, F2, true), (10, F3, true), (9, F4, true), (14, F5, true)] (n := 5) rfl (by decide) rfl ⟨(HF1.out trivial).quiet (((HD2.out.then HD3.out).then HD4.out).then HD5.out), (fun e => nomatch e)⟩).mono ?_; rintro e w6 ⟨he, hc⟩; replace he := he.trans (show _ = Ending.returned (.int .i64 z) by rw [HZ.out]; rfl); subst he; have HC6 := Lib.hid (HC5.out.then hc); obtain ⟨k6_0, k6_1, k6_2, k6_3⟩ := HK.out _ HC6.out; clear hc))
  all_goals
    go_wp2
    go_ret
    exact ⟨rfl, HW0.out.then HC6.out⟩
set_option maxHeartbeats 3200000 in
set_option maxRecDepth 100000 in
theorem derive_none {pt : Option Addr} (h : NoS w (.pointer pt)) (p q : Pt) (c : Cp) : Calls Try.prog 31 #[.pointer pt, .int .i64 p.g, .int .i64 p.s, .int .i64 q.g, .int .i64 q.s, c.val] w fun e w' => e = .returned (.int .i64 1) ∧ Chg [] w w' := by
  have H1 := Lib.hid (fun W (hc : Chg [] w W) => there_any (h.quiet hc).non)
  have H2 := Lib.hid (fun W (hc : Chg [] w W) => whas_no pt p W)
  have H3 := Lib.hid (fun W (hc : Chg [] w W) => wfilled_no pt p W)
  have H4 := Lib.hid (fun W (hc : Chg [] w W) => whas_no pt q W)
  have H5 := Lib.hid (fun W (hc : Chg [] w W) => wempty_no pt q W)
  have H6 := Lib.hid (fun W (hc : Chg [] w W) => wmay_any c W)
  have H7 := Lib.hid (fun W (hc : Chg [] w W) => wamong_no pt p c.rts W)
  have H8 := Lib.hid (fun W (hc : Chg [] w W) => wroom_no pt W)
  have HK := Lib.hid (show ∀ W, Chg [] (((w.alloc (.cells c.arr 39)).alloc (.cells #[.int .i64 p.g, .int .i64 p.s] 94)).alloc (.cells #[.int .i64 q.g, .int .i64 q.s] 94)) W → W.cell? ⟨w.heap.size, 0, none⟩ = some (.int .i64 c.kind) ∧ W.cell? ⟨w.heap.size, 1, none⟩ = some (.int .i64 c.idx) ∧ W.cell? ⟨w.heap.size, 2, none⟩ = some (.int .u64 c.gen) ∧ W.cell? ⟨w.heap.size, 3, none⟩ = some (.int .u8 (c.rts : Nat)) ∧ W.cell? ⟨w.heap.size + 1, 0, none⟩ = some (.int .i64 p.g) ∧ W.cell? ⟨w.heap.size + 1, 1, none⟩ = some (.int .i64 p.s) ∧ W.cell? ⟨w.heap.size + 1 + 1, 0, none⟩ = some (.int .i64 q.g) ∧ W.cell? ⟨w.heap.size + 1 + 1, 1, none⟩ = some (.int .i64 q.s) from fun W hc => by
    have r0 := Blk.four (c := c) (((((by have := Blk.new w 39 c.arr; simpa using this : Blk (w.alloc (.cells c.arr 39)) (w.heap.size) 39 c.arr).alloc _).alloc _)).quiet hc)
    have r1 := Blk.two (p := p) ((((by have := Blk.new (w.alloc (.cells c.arr 39)) 94 #[.int .i64 p.g, .int .i64 p.s]; simpa using this : Blk ((w.alloc (.cells c.arr 39)).alloc (.cells #[.int .i64 p.g, .int .i64 p.s] 94)) (w.heap.size + 1) 94 #[.int .i64 p.g, .int .i64 p.s]).alloc _)).quiet hc)
    have r2 := Blk.two (p := q) (((by have := Blk.new ((w.alloc (.cells c.arr 39)).alloc (.cells #[.int .i64 p.g, .int .i64 p.s] 94)) 94 #[.int .i64 q.g, .int .i64 q.s]; simpa using this : Blk (((w.alloc (.cells c.arr 39)).alloc (.cells #[.int .i64 p.g, .int .i64 p.s] 94)).alloc (.cells #[.int .i64 q.g, .int .i64 q.s] 94)) (w.heap.size + 1 + 1) 94 #[.int .i64 q.g, .int .i64 q.s])).quiet hc)
    exact ⟨r0.1, r0.2.1, r0.2.2.1, r0.2.2.2, r1.1, r1.2, r2.1, r2.2⟩)
  obtain ⟨k0_0, k0_1, k0_2, k0_3, k0_4, k0_5, k0_6, k0_7⟩ := HK.out _ (Chg.refl _ _).drew
  have HW0 := Lib.hid (show Chg [] w (((w.alloc (.cells c.arr 39)).alloc (.cells #[.int .i64 p.g, .int .i64 p.s] 94)).alloc (.cells #[.int .i64 q.g, .int .i64 q.s] 94)) from ((((Chg.refl _ _).alloc _).alloc _).alloc _))
  obtain ⟨z, hzz⟩ : ∃ z : Int, z = 1 := ⟨_, rfl⟩
  have HZ := Lib.hid hzz
  rw [← hzz]
  have hz0 : (z == 0) = false := by rw [hzz]; rfl
  clear h hzz
  go_enter Try.func31, Try.ntmps31
  have tok2 : True := trivial
  go_wp2
  go_region_held3 (fun w' => w'.cell? ⟨w.heap.size, 0, none⟩ = some (.int .i64 c.kind) ∧ w'.cell? ⟨w.heap.size, 1, none⟩ = some (.int .i64 c.idx) ∧ w'.cell? ⟨w.heap.size, 2, none⟩ = some (.int .u64 c.gen) ∧ w'.cell? ⟨w.heap.size, 3, none⟩ = some (.int .u8 (c.rts : Nat)) ∧ w'.cell? ⟨w.heap.size + 1, 0, none⟩ = some (.int .i64 p.g) ∧ w'.cell? ⟨w.heap.size + 1, 1, none⟩ = some (.int .i64 p.s) ∧ w'.cell? ⟨w.heap.size + 1 + 1, 0, none⟩ = some (.int .i64 q.g) ∧ w'.cell? ⟨w.heap.size + 1 + 1, 1, none⟩ = some (.int .i64 q.s))
    (first | go_keep)
    (first
      | (go_at_call 55; refine (H1.out _ HW0.out.drew).mono ?_; rintro e w1 ⟨F1, rfl, hc, hF⟩; have HC1 := Lib.hid (((Chg.refl _ _).drew).then hc : Chg [] (((w.alloc (.cells c.arr 39)).alloc (.cells #[.int .i64 p.g, .int .i64 p.s] 94)).alloc (.cells #[.int .i64 q.g, .int .i64 q.s] 94)) w1); have HF1 := Lib.hid hF; have HD1 := Lib.hid hc; obtain ⟨k1_0, k1_1, k1_2, k1_3, k1_4, k1_5, k1_6, k1_7⟩ := HK.out _ HC1.out; clear hc hF)
      | (go_at_call 56; have _t := tok2; refine (H2.out _ (HW0.out.then HC1.out)).mono ?_; rintro e w2 ⟨F2, rfl, hc, hF⟩; have HC2 := Lib.hid (HC1.out.then hc); have HF2 := Lib.hid hF; have HD2 := Lib.hid hc; obtain ⟨k2_0, k2_1, k2_2, k2_3, k2_4, k2_5, k2_6, k2_7⟩ := HK.out _ HC2.out; clear hc hF tok2)
      | (go_at_call 57; refine (H3.out _ (HW0.out.then HC2.out)).mono ?_; rintro e w3 ⟨F3, rfl, hc, hF⟩; have HC3 := Lib.hid (HC2.out.then hc); have HF3 := Lib.hid hF; have HD3 := Lib.hid hc; obtain ⟨k3_0, k3_1, k3_2, k3_3, k3_4, k3_5, k3_6, k3_7⟩ := HK.out _ HC3.out; clear hc hF)
      | (go_at_call 56; refine (H4.out _ (HW0.out.then HC3.out)).mono ?_; rintro e w4 ⟨F4, rfl, hc, hF⟩; have HC4 := Lib.hid (HC3.out.then hc); have HF4 := Lib.hid hF; have HD4 := Lib.hid hc; obtain ⟨k4_0, k4_1, k4_2, k4_3, k4_4, k4_5, k4_6, k4_7⟩ := HK.out _ HC4.out; clear hc hF)
      | (go_at_call 66; refine (H5.out _ (HW0.out.then HC4.out)).mono ?_; rintro e w5 ⟨F5, rfl, hc, hF⟩; have HC5 := Lib.hid (HC4.out.then hc); have HF5 := Lib.hid hF; have HD5 := Lib.hid hc; obtain ⟨k5_0, k5_1, k5_2, k5_3, k5_4, k5_5, k5_6, k5_7⟩ := HK.out _ HC5.out; clear hc hF)
      | (go_at_call 68; refine (H6.out _ (HW0.out.then HC5.out)).mono ?_; rintro e w6 ⟨F6, rfl, hc, hF⟩; have HC6 := Lib.hid (HC5.out.then hc); have HF6 := Lib.hid hF; have HD6 := Lib.hid hc; obtain ⟨k6_0, k6_1, k6_2, k6_3, k6_4, k6_5, k6_6, k6_7⟩ := HK.out _ HC6.out; clear hc hF)
      | (go_at_call 71; refine (H7.out _ (HW0.out.then HC6.out)).mono ?_; rintro e w7 ⟨F7, rfl, hc, hF⟩; have HC7 := Lib.hid (HC6.out.then hc); have HF7 := Lib.hid hF; have HD7 := Lib.hid hc; obtain ⟨k7_0, k7_1, k7_2, k7_3, k7_4, k7_5, k7_6, k7_7⟩ := HK.out _ HC7.out; clear hc hF)
      | (go_at_call 69; refine (H8.out _ (HW0.out.then HC7.out)).mono ?_; rintro e w8 ⟨F8, rfl, hc, hF⟩; have HC8 := Lib.hid (HC7.out.then hc); have HF8 := Lib.hid hF; have HD8 := Lib.hid hc; obtain ⟨k8_0, k8_1, k8_2, k8_3, k8_4, k8_5, k8_6, k8_7⟩ := HK.out _ HC8.out; clear hc hF)
      | (go_at_call 54; refine (refuse [(1, F1, false), (9, F2, true), (10, F3, true), (9, F4, true), (14, F5, true), (2, F6, true), (13, F7, true), (3, F8, true)] (n := 8) rfl (by decide) rfl ⟨(HF1.out trivial).quiet ((((((HD2.out.then HD3.out).then HD4.out).then HD5.out).then HD6.out).then HD7.out).then HD8.out), (fun e => nomatch e)⟩).mono ?_; rintro e w9 ⟨he, hc⟩; replace he := he.trans (show _ = Ending.returned (.int .i64 z) by rw [HZ.out]; rfl); subst he; have HC9 := Lib.hid (HC8.out.then hc); obtain ⟨k9_0, k9_1, k9_2, k9_3, k9_4, k9_5, k9_6, k9_7⟩ := HK.out _ HC9.out; clear hc))
  all_goals
    go_wp2
    go_ret
    exact ⟨rfl, HW0.out.then HC9.out⟩
end
end Go.Proofs
end
section
namespace Go.Proofs
open Go.RowKit
set_option linter.unusedVariables false
set_option linter.unusedSimpArgs false

/-! ### A zero space lies in W -/
def NZ (w W : World) (z : Nat) : Prop := Blk W z 73 #[.int .i64 0, .int .i64 0, .pointer none, .map none, .slice none 0 0] ∧ Chg [] w W
section
variable {w W W' : World} {z : Nat}
theorem NZ.quiet (h : NZ w W z) (hc : Chg [] W W') : NZ w W' z := ⟨h.1.quiet hc, h.2.then hc⟩
theorem NZ.nos (h : NZ w W z) : NoS W (.pointer (some ⟨z, 0, none⟩)) := .inr ⟨z, rfl, h.1⟩
theorem NZ.get (h : NZ w W z) : Calls Try.prog 18 #[.pointer none, .int .i64 0, .int .i64 0] W fun e W' => e = .returned (.tuple #[.agg #[.int .i64 0, .int .i64 0, .int .u64 0, .int .u8 0], .int .i64 1]) ∧ NZ w (W'.alloc (.cells #[.int .i64 0, .int .i64 0, .int .u64 0, .int .u8 0] 39)) z :=
  (get_none (NoS.nil W) ⟨0, 0⟩).mono fun e W' hq => ⟨hq.1, h.quiet (hq.2.alloc _)⟩
theorem NZ.revoke (h : NZ w W z) : Calls Try.prog 21 #[.pointer (some ⟨z, 0, none⟩), .int .i64 0, .int .i64 0] W fun e W' => e = .returned (.tuple #[.int .i64 0, .int .i64 1]) ∧ NZ w W' z :=
  (revoke_none h.nos ⟨0, 0⟩).mono fun e W' hq => ⟨hq.1, h.quiet hq.2⟩
theorem NZ.parent (h : NZ w W z) : Calls Try.prog 17 #[.pointer none, .int .i64 0, .int .i64 0] W fun e W' => e = .returned (.tuple #[.int .i64 0, .int .i64 0, .bool false]) ∧ NZ w W' z :=
  (tparent_no (NoS.nil W) ⟨0, 0⟩).mono fun e W' hq => ⟨hq.1, h.quiet hq.2⟩
theorem NZ.cap0 (h : NZ w W z) : Calls Try.prog 30 #[] W fun e W' => e = .returned (.agg #[.int .i64 1, .int .i64 1, .int .u64 1, .int .u8 255]) ∧ NZ w W' z :=
  (cap0_any W).mono fun e W' hq => ⟨hq.1, h.quiet hq.2⟩
theorem NZ.root (h : NZ w W z) : Calls Try.prog 29 #[.pointer none, .int .i64 0, .int .i64 0, .agg #[.int .i64 1, .int .i64 1, .int .u64 1, .int .u8 255]] W fun e W' => e = .returned (.int .i64 1) ∧ NZ w W' z :=
  (root_none (NoS.nil W) ⟨0, 0⟩ c0).mono fun e W' hq => ⟨hq.1, h.quiet hq.2⟩
theorem NZ.derive (h : NZ w W z) : Calls Try.prog 31 #[.pointer (some ⟨z, 0, none⟩), .int .i64 0, .int .i64 0, .int .i64 0, .int .i64 1, .agg #[.int .i64 1, .int .i64 1, .int .u64 1, .int .u8 255]] W fun e W' => e = .returned (.int .i64 1) ∧ NZ w W' z :=
  (derive_none h.nos ⟨0, 0⟩ ⟨0, 1⟩ c0).mono fun e W' hq => ⟨hq.1, h.quiet hq.2⟩
theorem NZ.free (h : NZ w W z) : Calls Try.prog 32 #[.pointer none, .int .i64 0, .int .i64 0] W fun e W' => e = .returned (.int .i64 1) ∧ NZ w W' z :=
  (free_none (NoS.nil W) ⟨0, 0⟩).mono fun e W' hq => ⟨hq.1, h.quiet hq.2⟩
theorem NZ.move (h : NZ w W z) : Calls Try.prog 25 #[.pointer (some ⟨z, 0, none⟩), .int .i64 0, .int .i64 0, .int .i64 1] W fun e W' => e = .returned (.int .i64 1) ∧ NZ w W' z :=
  (move_none h.nos ⟨0, 0⟩ ⟨0, 1⟩ rfl).mono fun e W' hq => ⟨hq.1, h.quiet hq.2⟩
theorem NZ.delete (h : NZ w W z) : Calls Try.prog 33 #[.pointer none, .int .i64 0, .int .i64 0] W fun e W' => e = .returned (.int .i64 1) ∧ NZ w W' z :=
  (delete_none (NoS.nil W) ⟨0, 0⟩).mono fun e W' hq => ⟨hq.1, h.quiet hq.2⟩
theorem NZ.clear1 (h : NZ w W z) : Calls Try.prog 34 #[.pointer none, .int .i64 0] W fun e W' => e = .returned (.int .i64 0) ∧ NZ w W' z :=
  (clear_no (NoS.nil W) 0).mono fun e W' hq => ⟨hq.1, h.quiet hq.2⟩
theorem NZ.clear2 (h : NZ w W z) : Calls Try.prog 34 #[.pointer (some ⟨z, 0, none⟩), .int .i64 0] W fun e W' => e = .returned (.int .i64 0) ∧ NZ w W' z :=
  (clear_no h.nos 0).mono fun e W' hq => ⟨hq.1, h.quiet hq.2⟩
theorem NZ.len1 (h : NZ w W z) : Calls Try.prog 35 #[.pointer none] W fun e W' => e = .returned (.int .i64 0) ∧ NZ w W' z :=
  (slen_no (NoS.nil W)).mono fun e W' hq => ⟨hq.1, h.quiet hq.2⟩
theorem NZ.len2 (h : NZ w W z) : Calls Try.prog 35 #[.pointer (some ⟨z, 0, none⟩)] W fun e W' => e = .returned (.int .i64 0) ∧ NZ w W' z :=
  (slen_no h.nos).mono fun e W' hq => ⟨hq.1, h.quiet hq.2⟩
theorem NZ.room1 (h : NZ w W z) : Calls Try.prog 36 #[.pointer none] W fun e W' => e = .returned (.int .i64 0) ∧ NZ w W' z :=
  (room_no (NoS.nil W)).mono fun e W' hq => ⟨hq.1, h.quiet hq.2⟩
theorem NZ.room2 (h : NZ w W z) : Calls Try.prog 36 #[.pointer (some ⟨z, 0, none⟩)] W fun e W' => e = .returned (.int .i64 0) ∧ NZ w W' z :=
  (room_no h.nos).mono fun e W' hq => ⟨hq.1, h.quiet hq.2⟩
theorem NZ.caps (h : NZ w W z) : Calls Try.prog 16 #[.pointer none, .int .i64 0] W fun e W' => ∃ A c, e = .returned (.slice A 0 c) ∧ NZ w W' z :=
  (caps_no (NoS.nil W) 0).mono fun e W' hq => by
    obtain ⟨A, c, he, hf⟩ := hq
    exact ⟨A, c, he, h.quiet hf.2.2⟩
theorem NZ.under (h : NZ w W z) : Calls Try.prog 23 #[.pointer none, .int .i64 0, .int .i64 0, .int .i64 0, .int .i64 1] W fun e W' => e = .returned (.bool false) ∧ NZ w W' z :=
  (under_none (NoS.nil W) ⟨0, 0⟩ ⟨0, 1⟩).mono fun e W' hq => ⟨hq.1, h.quiet hq.2⟩
theorem NZ.copy (h : NZ w W z) : Calls Try.prog 20 #[.pointer none] W fun e W' => e = .returned (.pointer none) ∧ NZ w W' z :=
  (scopy_nil W).mono fun e W' hq => ⟨hq.1, by rw [hq.2]; exact h⟩
theorem NZ.same1 (h : NZ w W z) : Calls Try.prog 22 #[.pointer none, .pointer (some ⟨z, 0, none⟩)] W fun e W' => e = .returned (.bool true) ∧ NZ w W' z :=
  (same_none (NoS.nil W) h.nos).mono fun e W' hq => ⟨hq.1, by rw [hq.2]; exact h⟩
theorem NZ.same2 (h : NZ w W z) : Calls Try.prog 22 #[.pointer (some ⟨z, 0, none⟩), .pointer none] W fun e W' => e = .returned (.bool true) ∧ NZ w W' z :=
  (same_none h.nos (NoS.nil W)).mono fun e W' hq => ⟨hq.1, by rw [hq.2]; exact h⟩
theorem NZ.may (h : NZ w W z) (c : Cp) {x : Bool} (hx : mayB c = x) : Calls Try.prog 37 #[.agg #[.int .i64 c.kind, .int .i64 c.idx, .int .u64 c.gen, .int .u8 (c.rts : Nat)]] W fun e W' => e = .returned (.bool x) ∧ NZ w W' z :=
  (may_any c W).mono fun e W' hq => ⟨by rw [← hx]; exact hq.1, h.quiet hq.2⟩
theorem NZ.may1 (h : NZ w W z) : Calls Try.prog 37 #[.agg #[.int .i64 1, .int .i64 1, .int .u64 1, .int .u8 255]] W fun e W' => e = .returned (.bool true) ∧ NZ w W' z := h.may ⟨1, 1, 1, 255⟩ (by decide)
theorem NZ.may2 (h : NZ w W z) : Calls Try.prog 37 #[.agg #[.int .i64 0, .int .i64 0, .int .u64 0, .int .u8 0]] W fun e W' => e = .returned (.bool false) ∧ NZ w W' z := h.may ⟨0, 0, 0, 0⟩ (by decide)
theorem NZ.may3 (h : NZ w W z) : Calls Try.prog 37 #[.agg #[.int .i64 4, .int .i64 0, .int .u64 1, .int .u8 0]] W fun e W' => e = .returned (.bool false) ∧ NZ w W' z := h.may ⟨4, 0, 1, 0⟩ (by decide)
theorem NZ.may4 (h : NZ w W z) : Calls Try.prog 37 #[.agg #[.int .i64 1, .int .i64 (-1), .int .u64 1, .int .u8 0]] W fun e W' => e = .returned (.bool false) ∧ NZ w W' z := h.may ⟨1, -1, 1, 0⟩ (by decide)
theorem NZ.may5 (h : NZ w W z) : Calls Try.prog 37 #[.agg #[.int .i64 1, .int .i64 1, .int .u64 0, .int .u8 0]] W fun e W' => e = .returned (.bool false) ∧ NZ w W' z := h.may ⟨1, 1, 0, 0⟩ (by decide)
theorem NZ.known (h : NZ w W z) : Calls Try.prog 12 #[] W fun e W' => e = .returned (.bool true) ∧ NZ w W' z :=
  (known_any W).mono fun e W' hq => ⟨hq.1, h.quiet hq.2⟩
end
attribute [local go_sem] eql_ptr_nil neq_ptr_nil eql_nil_nil
theorem neq_nil_nil (w : World) : (binOp .neq 23 (.pointer none) (.pointer none)).run Try.prog w = .ok (.bool false) w := by kernel_rfl
attribute [local go_sem] neq_nil_nil
set_option maxHeartbeats 12800000 in
set_option maxRecDepth 100000 in
theorem nil_any (w : World) : Calls Try.prog 8 #[] w fun e w' => e = .returned (.bool true) ∧ Chg [] w w' := by
  have HQ := Lib.hid (show NZ w (w.alloc (.cells #[.int .i64 0, .int .i64 0, .pointer none, .map none, .slice none 0 0] 73)) w.heap.size from ⟨Blk.new w 73 _, (Chg.refl _ _).alloc _⟩)
  have t1 : True := trivial
  have t2 : True := trivial
  have t3 : True := trivial
  have t4 : True := trivial
  have t5 : True := trivial
  have s1 : True := trivial
  have r1 : True := trivial
  have l1 : True := trivial
  have c1 : True := trivial
  go_enter Try.func8, Try.ntmps8
  go_wp2_with (first
    | (go_at_call 18; refine HQ.out.get.mono ?_; rintro e w1 ⟨rfl, hq⟩; have HQ := Lib.hid hq; clear hq)
    | (go_at_call 21; refine HQ.out.revoke.mono ?_; rintro e w2 ⟨rfl, hq⟩; have HQ := Lib.hid hq; clear hq)
    | (go_at_call 17; refine HQ.out.parent.mono ?_; rintro e w3 ⟨rfl, hq⟩; have HQ := Lib.hid hq; clear hq)
    | (go_at_call 30; refine HQ.out.cap0.mono ?_; rintro e w4 ⟨rfl, hq⟩; have HQ := Lib.hid hq; clear hq)
    | (go_at_call 29; refine HQ.out.root.mono ?_; rintro e w5 ⟨rfl, hq⟩; have HQ := Lib.hid hq; clear hq)
    | (go_at_call 31; refine HQ.out.derive.mono ?_; rintro e w6 ⟨rfl, hq⟩; have HQ := Lib.hid hq; clear hq)
    | (go_at_call 32; refine HQ.out.free.mono ?_; rintro e w7 ⟨rfl, hq⟩; have HQ := Lib.hid hq; clear hq)
    | (go_at_call 25; refine HQ.out.move.mono ?_; rintro e w8 ⟨rfl, hq⟩; have HQ := Lib.hid hq; clear hq)
    | (go_at_call 33; refine HQ.out.delete.mono ?_; rintro e w9 ⟨rfl, hq⟩; have HQ := Lib.hid hq; clear hq)
    | (go_at_call 34; have _t := c1; refine HQ.out.clear1.mono ?_; rintro e w10 ⟨rfl, hq⟩; have HQ := Lib.hid hq; clear hq c1)
    | (go_at_call 34; refine HQ.out.clear2.mono ?_; rintro e w11 ⟨rfl, hq⟩; have HQ := Lib.hid hq; clear hq)
    | (go_at_call 35; have _t := l1; refine HQ.out.len1.mono ?_; rintro e w12 ⟨rfl, hq⟩; have HQ := Lib.hid hq; clear hq l1)
    | (go_at_call 35; refine HQ.out.len2.mono ?_; rintro e w13 ⟨rfl, hq⟩; have HQ := Lib.hid hq; clear hq)
    | (go_at_call 36; have _t := r1; refine HQ.out.room1.mono ?_; rintro e w14 ⟨rfl, hq⟩; have HQ := Lib.hid hq; clear hq r1)
    | (go_at_call 36; refine HQ.out.room2.mono ?_; rintro e w15 ⟨rfl, hq⟩; have HQ := Lib.hid hq; clear hq)
    | (go_at_call 16; refine HQ.out.caps.mono ?_; rintro e w16 ⟨A16, cc16, rfl, hq⟩; have HQ := Lib.hid hq; clear hq)
    | (go_at_call 23; refine HQ.out.under.mono ?_; rintro e w17 ⟨rfl, hq⟩; have HQ := Lib.hid hq; clear hq)
    | (go_at_call 20; refine HQ.out.copy.mono ?_; rintro e w18 ⟨rfl, hq⟩; have HQ := Lib.hid hq; clear hq)
    | (go_at_call 22; have _t := s1; refine HQ.out.same1.mono ?_; rintro e w19 ⟨rfl, hq⟩; have HQ := Lib.hid hq; clear hq s1)
    | (go_at_call 22; refine HQ.out.same2.mono ?_; rintro e w20 ⟨rfl, hq⟩; have HQ := Lib.hid hq; clear hq)
    | (go_at_call 37; have _t := t1; refine HQ.out.may1.mono ?_; rintro e w21 ⟨rfl, hq⟩; have HQ := Lib.hid hq; clear hq t1)
    | (go_at_call 37; have _t := t2; refine HQ.out.may2.mono ?_; rintro e w22 ⟨rfl, hq⟩; have HQ := Lib.hid hq; clear hq t2)
    | (go_at_call 37; have _t := t3; refine HQ.out.may3.mono ?_; rintro e w23 ⟨rfl, hq⟩; have HQ := Lib.hid hq; clear hq t3)
    | (go_at_call 37; have _t := t4; refine HQ.out.may4.mono ?_; rintro e w24 ⟨rfl, hq⟩; have HQ := Lib.hid hq; clear hq t4)
    | (go_at_call 37; refine HQ.out.may5.mono ?_; rintro e w25 ⟨rfl, hq⟩; have HQ := Lib.hid hq; clear hq)
    | (go_at_call 12; refine HQ.out.known.mono ?_; rintro e w26 ⟨rfl, hq⟩; have HQ := Lib.hid hq; clear hq))
  go_ret
  exact ⟨rfl, HQ.out.2⟩
end Go.Proofs
end
section
namespace Go.Proofs.Ytncpeemghnmakaa.cspaceNil
open Go.ChangeShapes Go.WideShapes Go.ChangeAt Go.RowKit
set_option linter.unusedVariables false

theorem own : ownKnob Try.prog.godebug = none := by kernel_rfl

set_option maxRecDepth 100000 in
theorem lifted (os : Os) (started : os.Started) (H : Type) (enc : TypeId × Value → H) :
    ReturnsInHanded {} Try.checked os 8 .any (Rows.cspaceNilSpec.pre6 enc Try.prog Try.f8 Rows.cspaceNilRow.domain false) (Rows.cspaceNilSpec.post enc Try.prog Try.f8 false true false false) := by
  refine returnsInHanded_of_change (C := Try.checked) own started (by kernel_rfl) Try.func8
    (ChangeSpec.witness6 (enc := enc) (C := Try.checked) false ⟨#[], #[], []⟩ 8 (by kernel_rfl) (by kernel_rfl) (by kernel_rfl) (by kernel_rfl)) ?_
  intro W base args ds gs before hval0 hW hcnd _
  have hval : ∀ (j : Nat) t v, Try.f8.params[j]? = some t → args[j]? = some v → Value.okWide Try.prog W .any base t v := hval0
  have hW' := hW
  obtain ⟨p, q, hA0, hV, rfl, hfz, hnd⟩ := hW
  have hA : DataW.TrodAll enc Try.prog W 0 (fun _ => true) true Try.f8.params.toList args.toList ds p := hA0
  rw [Try.params8] at hA hval
  obtain ⟨hnil, rfl, rfl⟩ := trodAll_nil hA
  obtain rfl : args = #[] := by cases args; simpa using hnil
  obtain ⟨rfl, rfl⟩ := trodVars_none hV
  clear hA0 hval0
  simp only [List.append_nil] at hW'
  refine (nil_any W).mono fun e W' ⟨he, hc⟩ => ?_
  have hg := hc.to_below
  subst he
  exact ⟨_, rfl, post_of_below (pa := []) (pv := []) hW' (fun _ _ _ => (trodAll_cons_mk (shut_bool Try.underlying4 _) trodAll_mk0)) (fun sp hsp => trodAll_mk0) (fun _ _ => rfl) (by simp)
    hg (ok_one (by kernel_rfl) rfl (okWide_bool_mk Try.underlying4 _))⟩

theorem over : Rows.cspaceNilRow.holds Try.pinned (OpenSpec.ofChange Rows.cspaceNilSpec) :=
  OpenClaim.holds_of_wide 8 Try.f8 rfl rfl rfl rfl rfl rfl rfl ⟨rfl, rfl, rfl, rfl, rfl⟩ rfl rfl rfl rfl rfl (by kernel_rfl) Try.func8 (by kernel_rfl)
    (of_decide_eq_true (by kernel_rfl)) (by unfold Func.isWrapper; first | (rw [if_pos (by decide +kernel)]; kernel_rfl) | (rw [if_neg (by decide +kernel)]; exact ⟨rfl, rfl⟩))
    (fun os started H enc _ => lifted os started H enc)

/-- ████ THE STATEMENT ████ -/
theorem proved : Rows.CspaceNilSaid :=
  over
#print axioms proved
end Go.Proofs.Ytncpeemghnmakaa.cspaceNil
end
