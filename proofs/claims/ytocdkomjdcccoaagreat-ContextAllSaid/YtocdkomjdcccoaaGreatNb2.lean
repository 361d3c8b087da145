import Derived.Test.YtocdkomjdcccoaaGreatNb1
import Derived.Sort.QuietIn
section
namespace Go.Proofs
open Go.RowKit Go.Shelf
set_option linter.unusedVariables false
set_option linter.unusedSimpArgs false
attribute [local go_sem] Oper.semAt_some

theorem len_drew {w : World} {c : Nat} {S : List Nat} {t : Tab Cx} {most : Int} (h : CtxAt w c S t most) :
    Calls Tryz.prog 32 #[.pointer (some ⟨c, 0, none⟩)] w fun e w' => e = .returned (.int .i64 (t.size - t.frees - t.retired)) ∧ ∃ n, w' = w.drewN n := by
  obtain ⟨g, hB, hT, hG, hW⟩ := h
  have hfr := len_C hT hW
  clear hT hG hW
  go_enter Tryz.func32, Tryz.ntmps32
  go_wp2_with (first
    | (go_at_call 43; refine (places_any hB).mono ?_; rintro e w' ⟨rfl, rfl⟩)
    | (go_at_call 77; refine hfr.mono ?_; rintro e w' ⟨rfl, nq, rfl⟩))
  go_ret
  exact ⟨rfl, _, rfl⟩
theorem none_same {w : World} {c : Nat} {S : List Nat} {t : Tab Cx} {most : Int} (h : CtxAt w c S t most) :
    Calls Tryz.prog 49 #[.pointer (some ⟨c, 0, none⟩)] w fun e w' => e = .returned (.bool false) ∧ w = w' := by
  obtain ⟨g, hB, _⟩ := h
  have c0 := hB.cell 0
  clear hB
  go_enter Tryz.func49, Tryz.ntmps49
  go_wp2
  go_ret
  exact ⟨rfl, rfl⟩
def lenT (t : Tab Cx) : Int := t.size - t.frees - t.retired
/-- Is it there in the other one, too, and the same? -/
def okP (t2 : Tab Cx) (p : Nam) : Bool := t2.has p.i p.q && sameB p.x (t2.at_ p.i p.q)
def sameT (t : Tab Cx) (most : Int) (t2 : Tab Cx) (most2 : Int) : Bool := (most == most2) && ((t.size == t2.size) && ((lenT t == lenT t2) && (nowL t t.size.toNat).all (okP t2)))
/-- In the midst of Same. -/
def SamI (t2 : Tab Cx) (w4 : World) {xs : List Nam} (pre : List (Mem xs)) (V : World) : Prop := (∀ p ∈ pre, okP t2 p.1 = true) ∧ Chg [] w4 V
theorem SamI.own {t2 : Tab Cx} {w4 : World} {C : Nat} {xs : List Nam} (hC : w4.heap.size ≤ C) : OwnFrom C (SamI t2 w4 (xs := xs)) := by
  rintro pre A B row ⟨h1, h2⟩ hg hr
  exact ⟨h1, h2.grown0 hg (fun k e => Nat.le_trans hC (hr k e).1)⟩
def SamX (t2 : Tab Cx) (b : Nat) (w4 : World) {xs : List Nam} (c : Code) (pre : List (Mem xs)) (V : World) : Prop := c = .ret ∧ (∃ p ∈ xs, okP t2 p = false) ∧ Blk V b 4 #[.bool false] ∧ Chg [b] w4 V
theorem SamX.own {t2 : Tab Cx} {w4 : World} {b C : Nat} {xs : List Nam} (hC : w4.heap.size ≤ C) (c : Code) : OwnFrom C (SamX t2 b w4 (xs := xs) c) := by
  rintro pre A B row ⟨h0, h1, h2, h3⟩ hg hr
  exact ⟨h0, h1, blk_keep h2 hg (fun r e => (hr r e).2), h3.grown0 hg (fun k e => Nat.le_trans hC (hr k e).1)⟩
theorem ex_frameQ {x0 x1 x2 x3 x4 x5 x6 x7 x8 x9 x10 x11 x12 x13 x14 x15 x16 x17 x18 x19 x20 x21 x22 x23 x24 x25 x26 x27 x28 x29 x30 x31 x32 x33 x34 x35 x36 x37 x38 x39 x40 x41 x42 x43 x44 x45 x46 x47 x48 x49 x50 x51 x52 x53 x54 x55 x56 x57 x58 x59 x60 x61 x62 x63 x64 x65 x66 x67 x68 x69 x70 x71 x72 x73 : Value} {ds : List Deferred} {p q : Prop} (hp : p) (hq : q) :
    ∃ u : Nat → Value, p ∧ ({ tmps := #[x0, x1, x2, x3, x4, x5, x6, x7, x8, x9, x10, x11, x12, x13, x14, x15, x16, x17, x18, x19, x20, x21, x22, x23, x24, x25, x26, x27, x28, x29, x30, x31, x32, x33, x34, x35, x36, x37, x38, x39, x40, x41, x42, x43, x44, x45, x46, x47, x48, x49, x50, x51, x52, x53, x54, x55, x56, x57, x58, x59, x60, x61, x62, x63, x64, x65, x66, x67, x68, x69, x70, x71, x72, x73], defers := ds } : Act) = { tmps := #[x0, u 1, u 2, x3, x4, x5, x6, u 7, u 8, u 9, u 10, u 11, u 12, u 13, u 14, u 15, u 16, u 17, u 18, u 19, u 20, u 21, u 22, u 23, u 24, u 25, u 26, u 27, u 28, u 29, u 30, u 31, u 32, u 33, u 34, u 35, u 36, u 37, u 38, u 39, u 40, u 41, u 42, u 43, u 44, u 45, u 46, u 47, u 48, u 49, u 50, u 51, u 52, u 53, u 54, u 55, u 56, u 57, u 58, u 59, u 60, u 61, u 62, u 63, u 64, u 65, u 66, u 67, u 68, u 69, u 70, u 71, u 72, u 73], defers := ds } ∧ q :=
  ⟨fun i => #[x0, x1, x2, x3, x4, x5, x6, x7, x8, x9, x10, x11, x12, x13, x14, x15, x16, x17, x18, x19, x20, x21, x22, x23, x24, x25, x26, x27, x28, x29, x30, x31, x32, x33, x34, x35, x36, x37, x38, x39, x40, x41, x42, x43, x44, x45, x46, x47, x48, x49, x50, x51, x52, x53, x54, x55, x56, x57, x58, x59, x60, x61, x62, x63, x64, x65, x66, x67, x68, x69, x70, x71, x72, x73].getD i undef, hp, rfl, hq⟩
set_option maxRecDepth 100000 in
set_option maxHeartbeats 25600000 in
theorem Same_any {w : World} {c c2 : Nat} {S S2 : List Nat} {t t2 : Tab Cx} {most most2 : Int} (h1 : CtxAt w c S t most) (h2 : CtxAt w c2 S2 t2 most2) (hl : ∀ (k : Nat) (s : Spot Cx), t.spots[k]? = some s → s.there = true → s.thing.l.length ≤ 100000) :
    Calls Tryz.prog 22 #[ptr c, ptr c2] w fun e w' => e = .returned (.bool (sameT t most t2 most2)) ∧ Chg [] w w' := by
  obtain ⟨g, hB, hT, hG, hW⟩ := id h1
  obtain ⟨g2, hB2, hT2, hG2, hW2⟩ := id h2
  obtain ⟨N, hN⟩ : ∃ N : Nat, t.size = (N : Nat) := ⟨t.size.toNat, by have := hW.s0; omega⟩
  have hcb : Chg [] w ((w.alloc (.cells #[.pointer (some ⟨c2, 0, none⟩)] 24)).alloc (.cells #[.bool false] 4)) := ((Chg.refl [] w).alloc _).alloc _
  have B3 : Blk ((w.alloc (.cells #[.pointer (some ⟨c2, 0, none⟩)] 24)).alloc (.cells #[.bool false] 4)) w.heap.size 24 #[.pointer (some ⟨c2, 0, none⟩)] := (Blk.new w 24 _).alloc _
  have B4 : Blk ((w.alloc (.cells #[.pointer (some ⟨c2, 0, none⟩)] 24)).alloc (.cells #[.bool false] 4)) (w.heap.size + 1) 4 #[.bool false] := Blk.at (w.alloc _) 4 _ (by simp)
  have HE1 := Lib.hid (none_same (h1.quiet hcb))
  have HE2 := Lib.hid (none_same (h2.quiet hcb))
  have x0 := (hB.chg hcb (by simp)).cell 0
  have x1 := (hB.chg hcb (by simp)).cell 1
  have y0 := (hB2.chg hcb (by simp)).cell 0
  have y1 := (hB2.chg hcb (by simp)).cell 1
  simp only [List.getElem?_toArray, List.getElem?_cons_succ, List.getElem?_cons_zero] at x0 x1 y0 y1
  have HB3 := Lib.hid B3
  have HB4 := Lib.hid B4
  have HCB := Lib.hid hcb
  have HS1 := fun k => (size_C (hT.quiet (hcb.drewN k)))
  have HS2 := fun k => (size_C (hT2.quiet (hcb.drewN k)))
  have HL1 := fun k => (len_drew (h1.quiet (hcb.drewN k)))
  have HL2 := fun k => (len_drew (h2.quiet (hcb.drewN k)))
  have HBL1 : Hid (Blk w c 66 #[.pointer (some ⟨g, 0, none⟩), .int .i64 most]) := Lib.hid hB
  have HT1 := Lib.hid hT
  have HW1 := Lib.hid hW
  have HH2 := Lib.hid h2
  have HGG := Lib.hid hG
  have HLL := Lib.hid hl
  have HNN := Lib.hid hN
  have lc : c < w.heap.size := hB.lt
  have lc2 : c2 < w.heap.size := hB2.lt
  refine (callsIn_wide (n := 12)).1 ?_
  refine callsIn_of_wp_marks Tryz.func22 rfl trivial ?_ rfl
  simp only [Tryz.ntmps22, List.size_toArray, List.length_cons, List.length_nil, Nat.reduceAdd, Nat.reduceSub, Array.replicate_succ, Array.replicate_zero, List.push_toArray, List.append_toArray, List.nil_append, List.cons_append]
  have HFALSE : Hid (sameT t most t2 most2 = false → ∀ k tmps, tmps[4]? = some (Value.pointer (some ⟨w.heap.size + 1, 0, none⟩)) → LeavesIn Fence.wide 12 Tryz.prog Tryz.f22 tmps (fun e w' => e = .returned (.bool (sameT t most t2 most2)) ∧ Chg [] w w') [] .returning ((((w.alloc (.cells #[.pointer (some ⟨c2, 0, none⟩)] 24)).alloc (.cells #[.bool false] 4)).drewN k).setCell ⟨w.heap.size + 1, 0, none⟩ (.bool false))) := Lib.hid (fun hs k tmps ht => by
    have h := ((HB4.out.drewN k)).set_ 0 (.bool false)
    have h0 := h.cell 0
    simp at h0
    refine ⟨.bool false, ?_, by rw [hs], (HCB.out.drewN k).setCell (p := ⟨w.heap.size + 1, 0, none⟩) (.inr (by simp)) _⟩
    simp [results, Tryz.f22, go_sem, h0, Result.andThen, ht])
  clear h1 h2 hB hB2 hT hT2 hG hG2 hW hW2 hl hN hcb B3 B4
  have HCQ : ∀ k, CallsIn Fence.wide (12 - 1) Tryz.prog 61 #[.pointer (some ⟨g, 0, none⟩)] ((((w.alloc (.cells #[.pointer (some ⟨c2, 0, none⟩)] 24)).alloc (.cells #[.bool false] 4)).drewN k)) fun e w'' => e = .returned (.int .i64 t.size) ∧ ∃ m, w'' = (((w.alloc (.cells #[.pointer (some ⟨c2, 0, none⟩)] 24)).alloc (.cells #[.bool false] 4)).drewN m) := fun k => (callsIn_wide.2 (HS1 k)).mono (fun e w'' ⟨a, b⟩ => ⟨a, k, b.symm⟩)
  have HCQ2 : ∀ k, CallsIn Fence.wide (12 - 1) Tryz.prog 61 #[.pointer (some ⟨g2, 0, none⟩)] ((((w.alloc (.cells #[.pointer (some ⟨c2, 0, none⟩)] 24)).alloc (.cells #[.bool false] 4)).drewN k)) fun e w'' => e = .returned (.int .i64 t2.size) ∧ ∃ m, w'' = (((w.alloc (.cells #[.pointer (some ⟨c2, 0, none⟩)] 24)).alloc (.cells #[.bool false] 4)).drewN m) := fun k => (callsIn_wide.2 (HS2 k)).mono (fun e w'' ⟨a, b⟩ => ⟨a, k, b.symm⟩)
  have HCL : ∀ k, CallsIn Fence.wide (12 - 1) Tryz.prog 32 #[.pointer (some ⟨c, 0, none⟩)] ((((w.alloc (.cells #[.pointer (some ⟨c2, 0, none⟩)] 24)).alloc (.cells #[.bool false] 4)).drewN k)) fun e w'' => e = .returned (.int .i64 (lenT t)) ∧ ∃ m, w'' = (((w.alloc (.cells #[.pointer (some ⟨c2, 0, none⟩)] 24)).alloc (.cells #[.bool false] 4)).drewN m) := fun k => (callsIn_wide.2 (HL1 k)).mono (fun e w'' ⟨a, q, b⟩ => ⟨a, _, b.trans (World.drewN_drewN _ _ _)⟩)
  have HCL2 : ∀ k, CallsIn Fence.wide (12 - 1) Tryz.prog 32 #[.pointer (some ⟨c2, 0, none⟩)] ((((w.alloc (.cells #[.pointer (some ⟨c2, 0, none⟩)] 24)).alloc (.cells #[.bool false] 4)).drewN k)) fun e w'' => e = .returned (.int .i64 (lenT t2)) ∧ ∃ m, w'' = (((w.alloc (.cells #[.pointer (some ⟨c2, 0, none⟩)] 24)).alloc (.cells #[.bool false] 4)).drewN m) := fun k => (callsIn_wide.2 (HL2 k)).mono (fun e w'' ⟨a, q, b⟩ => ⟨a, _, b.trans (World.drewN_drewN _ _ _)⟩)
  have HQ1 := Lib.hid HCQ
  have HQ2 := Lib.hid HCQ2
  have HQ3 := Lib.hid HCL
  have HQ4 := Lib.hid HCL2
  clear HCQ HCQ2 HCL HCL2 HS1 HS2 HL1 HL2
  gi_wp2_with (first
    | (refine ⟨trivial, ?_⟩; gi_at_call 49; (with_reducible refine (callsIn_wide.2 HE1.out).mono ?_); rintro e w' ⟨rfl, rfl⟩)
    | (refine ⟨trivial, ?_⟩; gi_at_call 49; (with_reducible refine (callsIn_wide.2 HE2.out).mono ?_); rintro e w' ⟨rfl, rfl⟩))
  obtain ⟨Z1, hZ1⟩ : ∃ Z, Z = t.size := ⟨_, rfl⟩
  obtain ⟨Z2, hZ2⟩ : ∃ Z, Z = t2.size := ⟨_, rfl⟩
  obtain ⟨L1, hL1⟩ : ∃ Z, Z = lenT t := ⟨_, rfl⟩
  obtain ⟨L2, hL2⟩ : ∃ Z, Z = lenT t2 := ⟨_, rfl⟩
  have hsame : sameT t most t2 most2 = ((most == most2) && ((Z1 == Z2) && ((L1 == L2) && (nowL t N).all (okP t2)))) := by
    unfold sameT; rw [hZ1, hZ2, hL1, hL2, show t.size.toNat = N by have := HNN.out; omega]
  rw [← hZ1] at HQ1
  rw [← hZ2] at HQ2
  rw [← hL1] at HQ3
  rw [← hL2] at HQ4
  clear hZ1 hZ2 hL1 hL2
  cases hm : (most == most2) with
  | false =>
    have HF := HFALSE.out (by rw [hsame, hm]; rfl)
    have hm' : (most != most2) = true := by simpa [bne] using hm
    clear hsame
    refine wpIn_region_quiet_lit rfl (by kernel_rfl) (by kernel_rfl) ?_
    repeat (first
      | gi_big_quiet_step (fail)
      | (refine wpQuietIn_step (by unfold Oper.askedIn; intros; trivial) (fun K hK => ?_); go_simp; refine hK _ ?_; clear hK K))
    refine wpQuietIn_nil ?_
    intro _ hw'
    obtain ⟨nq, hw''⟩ := hw'
    subst hw''
    gi_wp2
    exact HF _ _ (by simp)
  | true =>
  have hm' : (most != most2) = false := by simpa [bne] using hm
  cases hz : (Z1 == Z2) with
  | false =>
    have HF := HFALSE.out (by rw [hsame, hm, hz]; rfl)
    have hz' : (Z1 != Z2) = true := by simpa [bne] using hz
    clear hsame
    refine wpIn_region_quiet_lit rfl (by kernel_rfl) (by kernel_rfl) ?_
    repeat (first
      | gi_big_quiet_step (fail)
      | (refine BigFrame.wpQuietIn_want (by unfold Oper.askedIn; intros; trivial) rfl (fun K hK => ?_); gi_big_quiet_op; apply Exists.intro; refine ⟨fun _ => ?_, ?_⟩; (first | (gi_at_call 61; exact HQ1.out _) | (gi_at_call 61; exact HQ2.out _)); refine hK _ ?_; clear hK K)
      | (refine wpQuietIn_step (by unfold Oper.askedIn; intros; trivial) (fun K hK => ?_); go_simp; refine hK _ ?_; clear hK K))
    refine wpQuietIn_nil ?_
    intro _ hw'
    obtain ⟨nq, hw''⟩ := hw'
    subst hw''
    gi_wp2
    exact HF _ _ (by simp)
  | true =>
  have hz' : (Z1 != Z2) = false := by simpa [bne] using hz
  cases hl : (L1 == L2) with
  | false =>
    have HF := HFALSE.out (by rw [hsame, hm, hz, hl]; rfl)
    have hl' : (L1 != L2) = true := by simpa [bne] using hl
    clear hsame
    refine wpIn_region_quiet_lit rfl (by kernel_rfl) (by kernel_rfl) ?_
    repeat (first
      | gi_big_quiet_step (fail)
      | (refine BigFrame.wpQuietIn_want (by unfold Oper.askedIn; intros; trivial) rfl (fun K hK => ?_); gi_big_quiet_op; apply Exists.intro; refine ⟨fun _ => ?_, ?_⟩; (first | (gi_at_call 61; exact HQ1.out _) | (gi_at_call 61; exact HQ2.out _) | (gi_at_call 32; exact HQ3.out _) | (gi_at_call 32; exact HQ4.out _)); refine hK _ ?_; clear hK K)
      | (refine wpQuietIn_step (by unfold Oper.askedIn; intros; trivial) (fun K hK => ?_); go_simp; refine hK _ ?_; clear hK K))
    refine wpQuietIn_nil ?_
    intro _ hw'
    obtain ⟨nq, hw''⟩ := hw'
    subst hw''
    gi_wp2
    exact HF _ _ (by simp)
  | true =>
  have hl' : (L1 != L2) = false := by simpa [bne] using hl
  have HSM : Hid (sameT t most t2 most2 = (nowL t N).all (okP t2)) := Lib.hid (by rw [hsame, hm, hz, hl]; rfl)
  clear hsame HFALSE
  refine wpIn_region_quiet_lit rfl (by kernel_rfl) (by kernel_rfl) ?_
  repeat (first
    | gi_big_quiet_step (fail)
    | (refine BigFrame.wpQuietIn_want (by unfold Oper.askedIn; intros; trivial) rfl (fun K hK => ?_); gi_big_quiet_op; apply Exists.intro; refine ⟨fun _ => ?_, ?_⟩; (first | (gi_at_call 61; exact HQ1.out _) | (gi_at_call 61; exact HQ2.out _) | (gi_at_call 32; exact HQ3.out _) | (gi_at_call 32; exact HQ4.out _)); refine hK _ ?_; clear hK K)
    | (refine wpQuietIn_step (by unfold Oper.askedIn; intros; trivial) (fun K hK => ?_); go_simp; refine hK _ ?_; clear hK K))
  refine wpQuietIn_nil ?_
  intro _ hw'
  obtain ⟨nq, hw''⟩ := hw'
  subst hw''
  gi_wp2
  gi_wp2_with (refine ⟨trivial, ?_⟩; gi_at_call 44; refine (all_in 11 (by omega) g N S t HW1.out HNN.out _ (HT1.out.quiet (HCB.out.drewN nq))).mono ?_; rintro e w4 ⟨⟨B, rfl, hH⟩, hb⟩; have HH := Lib.hid hH; have HBW := Lib.hid hb; clear hH hb)
  have hb4 := HBW.out
  have hc4 : Chg [] w w4 := (HCB.out.drewN nq).then (Chg.of_below hb4)
  have hbx3 : Blk w4 w.heap.size 24 #[.pointer (some ⟨c2, 0, none⟩)] := (HB3.out.drewN nq).chg (Chg.of_below hb4 : Chg [] _ w4) (by simp)
  have hbx4 : Blk w4 (w.heap.size + 1) 4 #[.bool false] := (HB4.out.drewN nq).chg (Chg.of_below hb4 : Chg [] _ w4) (by simp)
  have hln := nowL_len t N
  have hN4 : N ≤ 4096 := by have := HW1.out.s1; have := HNN.out; omega
  have hls : ∀ p ∈ nowL t N, Rd w4 p.x.v p.x.l ∧ p.x.l.length ≤ 100000 ∧ ∃ i : Nat, i < N ∧ p.i = (i : Nat) := fun p hp => by
    obtain ⟨i, s, hi, hs, rfl⟩ := mem_nowL.1 hp
    obtain ⟨q1, q2⟩ := live_nat.1 hs
    exact ⟨(HGG.out i s q1).quiet hc4, HLL.out i s q1 q2, i, hi, rfl⟩
  have HLS := Lib.hid hls
  have HC4 := Lib.hid hc4
  have HX3 := Lib.hid hbx3
  have HX4 := Lib.hid hbx4
  have hH' := HH.out.to
  rw [← att_map (nowL t N)] at hH'
  obtain ⟨g2', hB2, hT2, hG2, hW2⟩ := HH2.out
  have HGET : Hid (∀ W, Chg [] w4 W → ∃ g3, W.cell? ⟨c2, 0, none⟩ = some (.pointer (some ⟨g3, 0, none⟩)) ∧ ∀ W', Chg [] W W' → ∀ i q : Int, -9223372036854775808 ≤ i → i ≤ 9223372036854775807 → Calls Tryz.prog 62 #[.pointer (some ⟨g3, 0, none⟩), .agg #[.int .i64 i, .int .u64 q]] W' fun e w' => e = .returned (.tuple #[(t2.at_ i q).val, .int .i64 (staleE t2 i q)]) ∧ Chg [] W' w' ∧ Rd w' (t2.at_ i q).v (t2.at_ i q).l) := Lib.hid (fun W hc => ⟨g2', (hB2.chg (hc4.then hc) (by simp)).cell 0, fun W' hc' i q i0 i1 => (get_any (hT2.quiet ((hc4.then hc).then hc')) hW2 i q i0 i1).mono (fun e w' ⟨a, b⟩ => ⟨a, b, (hG2.at_ i q).quiet (((hc4.then hc).then hc').then b)⟩)⟩)
  have lz4 : w.heap.size + 1 < w4.heap.size := hbx4.lt
  clear hb4 hc4 hls hbx3 hbx4 hB2 hT2 hG2 hW2 x0 x1 y0 y1 hm hz hl hm' hz' hl'
  refine wpIn_rangeFunc_ownH rfl (by omega) (gf := 87) (lb := #[.pointer (some ⟨B, 0, none⟩)]) rfl trivial (enters_of Tryz.func87 (by kernel_rfl) rfl)
    (over_stops (X := fun k => k < w4.heap.size) (fun p : Mem (nowL t N) => p.1) (12 - 1) (by omega) hH' (fun k _ h => h) (fun k h => h) (by rw [List.length_attach]; omega)) (fun h k => h.trans k)
    (fun Wq l o o' hl ho _ _ => ⟨by simp [World.putObj], fun k hk => World.putObj_heap_other (fun e => by have : k < w4.heap.size := hk; omega)⟩)
    (Below.refl _ _) (fun _ => rfl)
    (SamI t2 w4) (SamX t2 (w.heap.size + 1) w4) (SamI.own (Nat.le_refl _)) (SamX.own (Nat.le_refl _))
    ⟨fun p hp => (by cases hp), Chg.refl _ _⟩
    (fun x a' Vq => ∃ (Bx By : Nat) (v : Nat → Value), (w4.heap.size ≤ Bx ∧ w4.heap.size ≤ By ∧ Blk Vq Bx 34 #[.int .i64 x.1.i, .int .u64 x.1.q] ∧ Blk Vq By 43 #[.int .u64 x.1.x.b, .int .u64 x.1.x.p, .slice x.1.x.a x.1.x.m x.1.x.c, .int .i64 x.1.x.n]) ∧ a' = { tmps := #[ptr c, v 1, v 2, .pointer (some ⟨w.heap.size, 0, none⟩), .pointer (some ⟨w.heap.size + 1, 0, none⟩), .pointer (some ⟨Bx, 0, none⟩), .pointer (some ⟨By, 0, none⟩), v 7, v 8, v 9, v 10, v 11, v 12, v 13, v 14, v 15, v 16, v 17, v 18, v 19, v 20, v 21, v 22, v 23, v 24, v 25, v 26, v 27, v 28, v 29, v 30, v 31, v 32, v 33, v 34, v 35, v 36, v 37, v 38, v 39, v 40, v 41, v 42, v 43, v 44, v 45, v 46, v 47, v 48, v 49, v 50, v 51, v 52, v 53, v 54, v 55, v 56, v 57, v 58, v 59, v 60, v 61, v 62, v 63, v 64, v 65, v 66, v 67, v 68, v 69, v 70, v 71, v 72, v 73], defers := [] } ∧ True)
    (fun x a' _ Xq Yq row hs hg hr => by
      obtain ⟨Bx, By, v, ⟨h1, h2, h3, h4⟩, h5⟩ := hs
      exact ⟨Bx, By, v, ⟨h1, h2, blk_keep h3 hg (fun r e => (hr r e).2), blk_keep h4 hg (fun r e => (hr r e).2)⟩, h5⟩)
    ?assign ?body ?done ?stop
  case assign =>
    rintro l' pre x Vq K2 hI hK2
    have hz4 := hI.2.size
    simp only [Nam.encs]
    gi_wp2
    have hcq : Chg [] Vq ((Vq.alloc (.cells #[.int .i64 x.1.i, .int .u64 x.1.q] 34)).alloc (.cells #[.int .u64 x.1.x.b, .int .u64 x.1.x.p, .slice x.1.x.a x.1.x.m x.1.x.c, .int .i64 x.1.x.n] 43)) := ((Chg.refl [] Vq).alloc _).alloc _
    exact hK2 _ _ (((KeepsOthers.alloc _ _).trans (KeepsOthers.alloc _ _)).from _) (KeepP.quiet hcq (fun k hk => Nat.lt_of_lt_of_le hk hz4)) ⟨hI.1, hI.2.then hcq⟩ ⟨Vq.heap.size, Vq.heap.size + 1, ex_frameQ ⟨hz4, by omega, (Blk.new Vq 34 _).alloc _, Blk.at (Vq.alloc _) 43 _ (by simp)⟩ trivial⟩
  case body =>
    rintro l' pre x a' Vq hl' ⟨r', hr'⟩ hI ⟨Bx, By, v, ⟨hBx, hBy, bX, bY⟩, rfl, _⟩ hlt
    obtain ⟨hrd, hll, iN, hiN, hie⟩ := HLS.out x.1 x.2
    obtain ⟨g3, hg3, hget⟩ := HGET.out Vq hI.2
    obtain ⟨⟨xi, xq, xb, xp, xa, xm, xc, xn, xl⟩, hxm⟩ := x
    simp only at hrd hll hie bX bY
    subst hie
    have HGE := Lib.hid (fun W' hc => hget W' hc (iN : Nat) xq (by omega) (by omega))
    have HRX := Lib.hid (hrd.quiet hI.2)
    have hrx3 := HX3.out.chg hI.2 (by simp)
    have hrx4 := HX4.out.chg hI.2 (by simp)
    have lVq := hI.2.size
    have u3 : Vq.drew.cell? ⟨w.heap.size, 0, none⟩ = some (.pointer (some ⟨c2, 0, none⟩)) := by simpa using hrx3.cell 0
    have uc : Vq.drew.cell? ⟨c2, 0, none⟩ = some (.pointer (some ⟨g3, 0, none⟩)) := hg3
    have u5 : Vq.drew.cell? ⟨Bx, 0, none⟩ = some (.int .i64 (iN : Nat)) := by simpa using bX.cell 0
    have u6 : Vq.drew.cell? ⟨Bx, 1, none⟩ = some (.int .u64 xq) := by simpa using bX.cell 1
    have p3 : Vq.cell? ⟨w.heap.size, 0, none⟩ = some (.pointer (some ⟨c2, 0, none⟩)) := by simpa using hrx3.cell 0
    have pc : Vq.cell? ⟨c2, 0, none⟩ = some (.pointer (some ⟨g3, 0, none⟩)) := hg3
    have p5 : Vq.cell? ⟨Bx, 0, none⟩ = some (.int .i64 (iN : Nat)) := by simpa using bX.cell 0
    have p6 : Vq.cell? ⟨Bx, 1, none⟩ = some (.int .u64 xq) := by simpa using bX.cell 1
    have lc2' : c2 < Vq.heap.size := by omega
    have l3' : w.heap.size < Vq.heap.size := by omega
    have lBx := bX.lt
    have lBy := bY.lt
    obtain ⟨yy, hyy⟩ : ∃ yy, yy = t2.at_ (iN : Nat) xq := ⟨_, rfl⟩
    have hok : okP t2 ⟨(iN : Nat), xq, xb, xp, xa, xm, xc, xn, xl⟩ = (t2.has (iN : Nat) xq && sameB ⟨xb, xp, xa, xm, xc, xn, xl⟩ yy) := by rw [hyy]; rfl
    rw [← hyy] at HGE
    have HOK := Lib.hid hok
    have HI := Lib.hid hI
    have HX := Lib.hid bX
    have HY := Lib.hid bY
    have HLN := Lib.hid hll
    have H4V := Lib.hid hrx4
    have HMM := Lib.hid hxm
    obtain ⟨yb, yp, ya, ym, yc, yn, yl⟩ := yy
    simp only [Cx.val] at HGE
    obtain ⟨E, hE⟩ : ∃ E, E = staleE t2 (iN : Nat) xq := ⟨_, rfl⟩
    rw [← hE] at HGE
    have HEE := Lib.hid hE
    clear hE
    clear hrd hll hget hg3 hyy hok hI hr' hrx3 hrx4 bX bY hlt
    gi_wp2
    refine wpIn_region_round (F := Fence.wide) l' rfl (by rfl) (by kernel_rfl) ?_
    show wpAnyIn _ _ _ _ _ _ 12 #[false, false, false, false, false, false, false, false, false, false, false, false] _ _
    refine wpAnyIn_ready (rs := [0, 4, 9]) (by kernel_rfl) (by simp) ?_
    refine AllReadyIn.cons rfl (fun K hK => ?_) (AllReadyIn.cons rfl (fun K hK => ?_) (AllReadyIn.cons rfl (fun K hK => ?_) AllReadyIn.nil))
    · go_simp
      refine hK _ _ ?_
      clear hK K
      refine wpAnyIn_take (i := 1) (v := .pointer (some ⟨c2, 0, none⟩)) rfl rfl (by kernel_rfl) (by kernel_rfl) (by kernel_rfl) (fun _ _ _ h => h) ⟨Or.inl ⟨by rfl, by intro w; go_simp⟩, fun _ => rfl⟩ ?_
      refine wpAnyIn_take (i := 2) (v := .pointer (some ⟨c2, 0, none⟩)) rfl rfl (by kernel_rfl) (by kernel_rfl) (by kernel_rfl) (fun _ _ _ h => h) ⟨Or.inl ⟨by rfl, by intro w; go_simp⟩, fun _ => rfl⟩ ?_
      refine wpAnyIn_ready (rs := [3, 4, 9]) (by kernel_rfl) (by simp) ?_
      refine AllReadyIn.cons rfl (fun K hK => ?_) (AllReadyIn.cons rfl (fun K hK => ?_) (AllReadyIn.cons rfl (fun K hK => ?_) AllReadyIn.nil))
      · go_simp
        refine hK _ _ ?_
        clear hK K
        refine wpAnyIn_ready (rs := [4, 9]) (by kernel_rfl) (by simp) ?_
        refine AllReadyIn.cons rfl (fun K hK => ?_) (AllReadyIn.cons rfl (fun K hK => ?_) AllReadyIn.nil)
        · go_simp
          refine hK _ _ ?_
          clear hK K
          refine wpAnyIn_ready (rs := [5, 9]) (by kernel_rfl) (by simp) ?_
          refine AllReadyIn.cons rfl (fun K hK => ?_) (AllReadyIn.cons rfl (fun K hK => ?_) AllReadyIn.nil)
          · go_simp
            (refine ⟨trivial, ?_⟩; refine (callsIn_wide.2 (HGE.out (Vq.drew) ((Chg.refl [] Vq).drew))).mono ?_; rintro e V2 ⟨rfl, hc2, hry⟩; have hcv : Chg [] Vq V2 := ((Chg.refl [] Vq).drew).then hc2; have HRY := Lib.hid hry)
            refine hK _ _ ?_
            clear hK K
            refine wpAnyIn_take (i := 6) (v := .tuple #[.agg #[.int .u64 yb, .int .u64 yp, .slice ya ym yc, .int .i64 yn], .int .i64 E]) rfl rfl (by kernel_rfl) (by kernel_rfl) (by kernel_rfl) (fun _ _ _ h => h) ⟨Or.inl ⟨by rfl, by intro w; go_simp⟩, fun _ => rfl⟩ ?_
            refine wpAnyIn_take (i := 7) (v := .agg #[.int .u64 yb, .int .u64 yp, .slice ya ym yc, .int .i64 yn]) rfl rfl (by kernel_rfl) (by kernel_rfl) (by kernel_rfl) (fun _ _ _ h => h) ⟨Or.inl ⟨by rfl, by intro w; go_simp⟩, fun _ => rfl⟩ ?_
            refine wpAnyIn_take (i := 8) (v := .int .i64 E) rfl rfl (by kernel_rfl) (by kernel_rfl) (by kernel_rfl) (fun _ _ _ h => h) ⟨Or.inl ⟨by rfl, by intro w; go_simp⟩, fun _ => rfl⟩ ?_
            refine wpAnyIn_ready (rs := [9]) (by kernel_rfl) (by simp) ?_
            refine AllReadyIn.cons rfl (fun K hK => ?_) AllReadyIn.nil
            go_simp
            refine hK _ _ ?_
            clear hK K
            refine wpAnyIn_ready (rs := [10]) (by kernel_rfl) (by simp) ?_
            refine AllReadyIn.cons rfl (fun K hK => ?_) AllReadyIn.nil
            go_simp
            refine hK _ _ ?_
            clear hK K
            refine wpAnyIn_ready (rs := [11]) (by kernel_rfl) (by simp) ?_
            refine AllReadyIn.cons rfl (fun K hK => ?_) AllReadyIn.nil
            go_simp
            refine hK _ _ ?_
            clear hK K
            refine wpAnyIn_done (by kernel_rfl) ?_ _
            obtain ⟨WT, hWT⟩ : ∃ WT, WT = V2.alloc (.cells #[.int .u64 yb, .int .u64 yp, .slice ya ym yc, .int .i64 yn] 43) := ⟨_, rfl⟩
            have hcT : Chg [] Vq WT := by rw [hWT]; exact hcv.alloc _
            have yT : Blk WT V2.heap.size 43 #[.int .u64 yb, .int .u64 yp, .slice ya ym yc, .int .i64 yn] := by rw [hWT]; exact Blk.new V2 43 _
            have HRYT : Hid (Rd WT (.slice ya ym yc) yl) := Lib.hid (by rw [hWT]; exact HRY.out.quiet ((Chg.refl _ _).alloc _))
            have xT := HY.out.chg hcT (by simp)
            have bT := H4V.out.chg hcT (by simp)
            have tx0 := xT.cell 0
            have tx1 := xT.cell 1
            have tx2 := xT.cell 2
            have tx3 := xT.cell 3
            have ty0 := yT.cell 0
            have ty1 := yT.cell 1
            have ty2 := yT.cell 2
            have ty3 := yT.cell 3
            have tb0 := bT.cell 0
            have tbf := bT.frozen 0
            have tl1 := xT.lt
            have tl2 := yT.lt
            have tl3 := bT.lt
            simp only [List.getElem?_toArray, List.getElem?_cons_succ, List.getElem?_cons_zero] at tx0 tx1 tx2 tx3 ty0 ty1 ty2 ty3 tb0
            have HRXT := Lib.hid (HRX.out.quiet hcT)
            have HCT := Lib.hid hcT
            have HBT := Lib.hid bT
            rw [← hWT]
            clear hWT xT bT yT hcT hcv hc2 u3 uc u5 u6 p3 pc p5 p6 lc2' l3' lBx lBy
            cases hh : t2.has (iN : Nat) xq with
            | false =>
              obtain rfl : E = 11 := by rw [HEE.out]; unfold staleE; rw [hh]; rfl
              have HOF : Hid (okP t2 ⟨(iN : Nat), xq, xb, xp, xa, xm, xc, xn, xl⟩ = false) := Lib.hid (by rw [HOK.out, hh]; rfl)
              clear hh
              gi_wp2
              refine ⟨trivial, ?_⟩
              gi_wp2
              refine ⟨((KeepsOthers.of_chg HCT.out).trans (KeepsOthers.setCell _ _ _)).from _, rfl, ⟨_, HMM.out, HOF.out⟩, by simpa using HBT.out.set_ 0 (.bool false), ((HI.out.2.then HCT.out).any.setCell (p := ⟨w.heap.size + 1, 0, none⟩) (.inl (by simp)) _)⟩
            | true =>
              obtain rfl : E = 0 := by rw [HEE.out]; unfold staleE; rw [hh]; rfl
              have HEQ := Lib.hid (equal63_any (x := ⟨xb, xp, xa, xm, xc, xn, xl⟩) (y := ⟨yb, yp, ya, ym, yc, yn, yl⟩) HRXT.out HRYT.out HLN.out)
              obtain ⟨sb, hsb⟩ : ∃ sb, sb = sameB ⟨xb, xp, xa, xm, xc, xn, xl⟩ ⟨yb, yp, ya, ym, yc, yn, yl⟩ := ⟨_, rfl⟩
              rw [← hsb] at HEQ
              have HOF : Hid (okP t2 ⟨(iN : Nat), xq, xb, xp, xa, xm, xc, xn, xl⟩ = sb) := Lib.hid (by rw [HOK.out, hh, hsb]; rfl)
              clear hh hsb
              cases sb with
              | false =>
                gi_wp2_with (refine ⟨trivial, ?_⟩; gi_at_call 63; refine (callsIn_wide.2 HEQ.out).mono ?_; rintro e V5 ⟨rfl, hc5⟩; have HC5 := Lib.hid (HCT.out.then hc5); have b5 := HBT.out.chg hc5 (by simp); have HB5 := Lib.hid b5; have b50 := b5.cell 0; have b5f := b5.frozen 0; clear hc5 b5)
                refine ⟨((KeepsOthers.of_chg HC5.out).trans (KeepsOthers.setCell _ _ _)).from _, rfl, ⟨_, HMM.out, HOF.out⟩, by simpa using HB5.out.set_ 0 (.bool false), ((HI.out.2.then HC5.out).any.setCell (p := ⟨w.heap.size + 1, 0, none⟩) (.inl (by simp)) _)⟩
              | true =>
                gi_wp2_with (refine ⟨trivial, ?_⟩; gi_at_call 63; refine (callsIn_wide.2 HEQ.out).mono ?_; rintro e V5 ⟨rfl, hc5⟩; have HC5 := Lib.hid (HCT.out.then hc5); clear hc5)
                refine ⟨(KeepsOthers.of_chg HC5.out).from _, KeepP.quiet HC5.out (fun k hk => Nat.lt_of_lt_of_le hk lVq), fun p hp => ?_, HI.out.2.then HC5.out⟩
                rcases List.mem_append.1 hp with h | h
                · exact HI.out.1 p h
                · simp at h
                  subst h
                  exact HOF.out
          · go_simp
            refine hK _ _ ?_
            clear hK K
            refine wpAnyIn_ready (rs := [5]) (by kernel_rfl) (by simp) ?_
            refine AllReadyIn.cons rfl (fun K hK => ?_) AllReadyIn.nil
            go_simp
            (refine ⟨trivial, ?_⟩; refine (callsIn_wide.2 (HGE.out (Vq.drew.alloc obCx) (((Chg.refl [] Vq).drew).alloc obCx))).mono ?_; rintro e V2 ⟨rfl, hc2, hry⟩; have hcv : Chg [] Vq V2 := (((Chg.refl [] Vq).drew).alloc obCx).then hc2; have HRY := Lib.hid hry; have hyb : Blk V2 Vq.heap.size 43 #[.int .u64 0, .int .u64 0, .slice none 0 0, .int .i64 0] := (Blk.new Vq.drew 43 _).chg hc2 (by simp); have z0 := hyb.cell 0; have z1 := hyb.cell 1; have z2 := hyb.cell 2; have z3 := hyb.cell 3; have zf := hyb.frozen; have lz := hyb.lt)
            refine hK _ _ ?_
            clear hK K
            refine wpAnyIn_take (i := 6) (v := .tuple #[.agg #[.int .u64 yb, .int .u64 yp, .slice ya ym yc, .int .i64 yn], .int .i64 E]) rfl rfl (by kernel_rfl) (by kernel_rfl) (by kernel_rfl) (fun _ _ _ h => h) ⟨Or.inl ⟨by rfl, by intro w; go_simp⟩, fun _ => rfl⟩ ?_
            refine wpAnyIn_take (i := 7) (v := .agg #[.int .u64 yb, .int .u64 yp, .slice ya ym yc, .int .i64 yn]) rfl rfl (by kernel_rfl) (by kernel_rfl) (by kernel_rfl) (fun _ _ _ h => h) ⟨Or.inl ⟨by rfl, by intro w; go_simp⟩, fun _ => rfl⟩ ?_
            refine wpAnyIn_take (i := 8) (v := .int .i64 E) rfl rfl (by kernel_rfl) (by kernel_rfl) (by kernel_rfl) (fun _ _ _ h => h) ⟨Or.inl ⟨by rfl, by intro w; go_simp⟩, fun _ => rfl⟩ ?_
            refine wpAnyIn_ready (rs := [10]) (by kernel_rfl) (by simp) ?_
            refine AllReadyIn.cons rfl (fun K hK => ?_) AllReadyIn.nil
            go_simp
            refine hK _ _ ?_
            clear hK K
            refine wpAnyIn_ready (rs := [11]) (by kernel_rfl) (by simp) ?_
            refine AllReadyIn.cons rfl (fun K hK => ?_) AllReadyIn.nil
            go_simp
            refine hK _ _ ?_
            clear hK K
            refine wpAnyIn_done (by kernel_rfl) ?_ _
            obtain ⟨WT, hWT⟩ : ∃ WT, WT = (((V2.setCell ⟨Vq.heap.size, 0, none⟩ (.int .u64 yb)).setCell ⟨Vq.heap.size, 1, none⟩ (.int .u64 yp)).setCell ⟨Vq.heap.size, 2, none⟩ (.slice ya ym yc)).setCell ⟨Vq.heap.size, 3, none⟩ (.int .i64 yn) := ⟨_, rfl⟩
            have hcT : Chg [] Vq WT := by rw [hWT]; exact (((hcv.setCell (p := ⟨Vq.heap.size, 0, none⟩) (.inr (Nat.le_refl _)) _).setCell (p := ⟨Vq.heap.size, 1, none⟩) (.inr (Nat.le_refl _)) _).setCell (p := ⟨Vq.heap.size, 2, none⟩) (.inr (Nat.le_refl _)) _).setCell (p := ⟨Vq.heap.size, 3, none⟩) (.inr (Nat.le_refl _)) _
            have yT : Blk WT Vq.heap.size 43 #[.int .u64 yb, .int .u64 yp, .slice ya ym yc, .int .i64 yn] := by
              have := (((hyb.set_ 0 (.int .u64 yb)).set_ 1 (.int .u64 yp)).set_ 2 (.slice ya ym yc)).set_ 3 (.int .i64 yn)
              rw [hWT]; simpa using this
            have HRYT : Hid (Rd WT (.slice ya ym yc) yl) := Lib.hid (HRY.out.chg (S := [Vq.heap.size]) (by rw [hWT]; exact ((((Chg.refl [Vq.heap.size] V2).setCell (p := ⟨Vq.heap.size, 0, none⟩) (.inl (by simp)) _).setCell (p := ⟨Vq.heap.size, 1, none⟩) (.inl (by simp)) _).setCell (p := ⟨Vq.heap.size, 2, none⟩) (.inl (by simp)) _).setCell (p := ⟨Vq.heap.size, 3, none⟩) (.inl (by simp)) _) (fun k hk hm => by
              simp at hm
              subst hm
              exact Rs.ty HRY.out hyb (by decide) hk))
            clear hyb z0 z1 z2 z3 zf lz
            have xT := HY.out.chg hcT (by simp)
            have bT := H4V.out.chg hcT (by simp)
            have tx0 := xT.cell 0
            have tx1 := xT.cell 1
            have tx2 := xT.cell 2
            have tx3 := xT.cell 3
            have ty0 := yT.cell 0
            have ty1 := yT.cell 1
            have ty2 := yT.cell 2
            have ty3 := yT.cell 3
            have tb0 := bT.cell 0
            have tbf := bT.frozen 0
            have tl1 := xT.lt
            have tl2 := yT.lt
            have tl3 := bT.lt
            simp only [List.getElem?_toArray, List.getElem?_cons_succ, List.getElem?_cons_zero] at tx0 tx1 tx2 tx3 ty0 ty1 ty2 ty3 tb0
            have HRXT := Lib.hid (HRX.out.quiet hcT)
            have HCT := Lib.hid hcT
            have HBT := Lib.hid bT
            rw [← hWT]
            clear hWT xT bT yT hcT hcv hc2 u3 uc u5 u6 p3 pc p5 p6 lc2' l3' lBx lBy
            cases hh : t2.has (iN : Nat) xq with
            | false =>
              obtain rfl : E = 11 := by rw [HEE.out]; unfold staleE; rw [hh]; rfl
              have HOF : Hid (okP t2 ⟨(iN : Nat), xq, xb, xp, xa, xm, xc, xn, xl⟩ = false) := Lib.hid (by rw [HOK.out, hh]; rfl)
              clear hh
              gi_wp2
              refine ⟨trivial, ?_⟩
              gi_wp2
              refine ⟨((KeepsOthers.of_chg HCT.out).trans (KeepsOthers.setCell _ _ _)).from _, rfl, ⟨_, HMM.out, HOF.out⟩, by simpa using HBT.out.set_ 0 (.bool false), ((HI.out.2.then HCT.out).any.setCell (p := ⟨w.heap.size + 1, 0, none⟩) (.inl (by simp)) _)⟩
            | true =>
              obtain rfl : E = 0 := by rw [HEE.out]; unfold staleE; rw [hh]; rfl
              have HEQ := Lib.hid (equal63_any (x := ⟨xb, xp, xa, xm, xc, xn, xl⟩) (y := ⟨yb, yp, ya, ym, yc, yn, yl⟩) HRXT.out HRYT.out HLN.out)
              obtain ⟨sb, hsb⟩ : ∃ sb, sb = sameB ⟨xb, xp, xa, xm, xc, xn, xl⟩ ⟨yb, yp, ya, ym, yc, yn, yl⟩ := ⟨_, rfl⟩
              rw [← hsb] at HEQ
              have HOF : Hid (okP t2 ⟨(iN : Nat), xq, xb, xp, xa, xm, xc, xn, xl⟩ = sb) := Lib.hid (by rw [HOK.out, hh, hsb]; rfl)
              clear hh hsb
              cases sb with
              | false =>
                gi_wp2_with (refine ⟨trivial, ?_⟩; gi_at_call 63; refine (callsIn_wide.2 HEQ.out).mono ?_; rintro e V5 ⟨rfl, hc5⟩; have HC5 := Lib.hid (HCT.out.then hc5); have b5 := HBT.out.chg hc5 (by simp); have HB5 := Lib.hid b5; have b50 := b5.cell 0; have b5f := b5.frozen 0; clear hc5 b5)
                refine ⟨((KeepsOthers.of_chg HC5.out).trans (KeepsOthers.setCell _ _ _)).from _, rfl, ⟨_, HMM.out, HOF.out⟩, by simpa using HB5.out.set_ 0 (.bool false), ((HI.out.2.then HC5.out).any.setCell (p := ⟨w.heap.size + 1, 0, none⟩) (.inl (by simp)) _)⟩
              | true =>
                gi_wp2_with (refine ⟨trivial, ?_⟩; gi_at_call 63; refine (callsIn_wide.2 HEQ.out).mono ?_; rintro e V5 ⟨rfl, hc5⟩; have HC5 := Lib.hid (HCT.out.then hc5); clear hc5)
                refine ⟨(KeepsOthers.of_chg HC5.out).from _, KeepP.quiet HC5.out (fun k hk => Nat.lt_of_lt_of_le hk lVq), fun p hp => ?_, HI.out.2.then HC5.out⟩
                rcases List.mem_append.1 hp with h | h
                · exact HI.out.1 p h
                · simp at h
                  subst h
                  exact HOF.out
        · go_simp
          refine hK _ _ ?_
          clear hK K
          refine wpAnyIn_ready (rs := [4]) (by kernel_rfl) (by simp) ?_
          refine AllReadyIn.cons rfl (fun K hK => ?_) AllReadyIn.nil
          go_simp
          refine hK _ _ ?_
          clear hK K
          refine wpAnyIn_ready (rs := [5]) (by kernel_rfl) (by simp) ?_
          refine AllReadyIn.cons rfl (fun K hK => ?_) AllReadyIn.nil
          go_simp
          (refine ⟨trivial, ?_⟩; refine (callsIn_wide.2 (HGE.out (Vq.drew.alloc obCx) (((Chg.refl [] Vq).drew).alloc obCx))).mono ?_; rintro e V2 ⟨rfl, hc2, hry⟩; have hcv : Chg [] Vq V2 := (((Chg.refl [] Vq).drew).alloc obCx).then hc2; have HRY := Lib.hid hry; have hyb : Blk V2 Vq.heap.size 43 #[.int .u64 0, .int .u64 0, .slice none 0 0, .int .i64 0] := (Blk.new Vq.drew 43 _).chg hc2 (by simp); have z0 := hyb.cell 0; have z1 := hyb.cell 1; have z2 := hyb.cell 2; have z3 := hyb.cell 3; have zf := hyb.frozen; have lz := hyb.lt)
          refine hK _ _ ?_
          clear hK K
          refine wpAnyIn_take (i := 6) (v := .tuple #[.agg #[.int .u64 yb, .int .u64 yp, .slice ya ym yc, .int .i64 yn], .int .i64 E]) rfl rfl (by kernel_rfl) (by kernel_rfl) (by kernel_rfl) (fun _ _ _ h => h) ⟨Or.inl ⟨by rfl, by intro w; go_simp⟩, fun _ => rfl⟩ ?_
          refine wpAnyIn_take (i := 7) (v := .agg #[.int .u64 yb, .int .u64 yp, .slice ya ym yc, .int .i64 yn]) rfl rfl (by kernel_rfl) (by kernel_rfl) (by kernel_rfl) (fun _ _ _ h => h) ⟨Or.inl ⟨by rfl, by intro w; go_simp⟩, fun _ => rfl⟩ ?_
          refine wpAnyIn_take (i := 8) (v := .int .i64 E) rfl rfl (by kernel_rfl) (by kernel_rfl) (by kernel_rfl) (fun _ _ _ h => h) ⟨Or.inl ⟨by rfl, by intro w; go_simp⟩, fun _ => rfl⟩ ?_
          refine wpAnyIn_ready (rs := [10]) (by kernel_rfl) (by simp) ?_
          refine AllReadyIn.cons rfl (fun K hK => ?_) AllReadyIn.nil
          go_simp
          refine hK _ _ ?_
          clear hK K
          refine wpAnyIn_ready (rs := [11]) (by kernel_rfl) (by simp) ?_
          refine AllReadyIn.cons rfl (fun K hK => ?_) AllReadyIn.nil
          go_simp
          refine hK _ _ ?_
          clear hK K
          refine wpAnyIn_done (by kernel_rfl) ?_ _
          obtain ⟨WT, hWT⟩ : ∃ WT, WT = (((V2.setCell ⟨Vq.heap.size, 0, none⟩ (.int .u64 yb)).setCell ⟨Vq.heap.size, 1, none⟩ (.int .u64 yp)).setCell ⟨Vq.heap.size, 2, none⟩ (.slice ya ym yc)).setCell ⟨Vq.heap.size, 3, none⟩ (.int .i64 yn) := ⟨_, rfl⟩
          have hcT : Chg [] Vq WT := by rw [hWT]; exact (((hcv.setCell (p := ⟨Vq.heap.size, 0, none⟩) (.inr (Nat.le_refl _)) _).setCell (p := ⟨Vq.heap.size, 1, none⟩) (.inr (Nat.le_refl _)) _).setCell (p := ⟨Vq.heap.size, 2, none⟩) (.inr (Nat.le_refl _)) _).setCell (p := ⟨Vq.heap.size, 3, none⟩) (.inr (Nat.le_refl _)) _
          have yT : Blk WT Vq.heap.size 43 #[.int .u64 yb, .int .u64 yp, .slice ya ym yc, .int .i64 yn] := by
            have := (((hyb.set_ 0 (.int .u64 yb)).set_ 1 (.int .u64 yp)).set_ 2 (.slice ya ym yc)).set_ 3 (.int .i64 yn)
            rw [hWT]; simpa using this
          have HRYT : Hid (Rd WT (.slice ya ym yc) yl) := Lib.hid (HRY.out.chg (S := [Vq.heap.size]) (by rw [hWT]; exact ((((Chg.refl [Vq.heap.size] V2).setCell (p := ⟨Vq.heap.size, 0, none⟩) (.inl (by simp)) _).setCell (p := ⟨Vq.heap.size, 1, none⟩) (.inl (by simp)) _).setCell (p := ⟨Vq.heap.size, 2, none⟩) (.inl (by simp)) _).setCell (p := ⟨Vq.heap.size, 3, none⟩) (.inl (by simp)) _) (fun k hk hm => by
            simp at hm
            subst hm
            exact Rs.ty HRY.out hyb (by decide) hk))
          clear hyb z0 z1 z2 z3 zf lz
          have xT := HY.out.chg hcT (by simp)
          have bT := H4V.out.chg hcT (by simp)
          have tx0 := xT.cell 0
          have tx1 := xT.cell 1
          have tx2 := xT.cell 2
          have tx3 := xT.cell 3
          have ty0 := yT.cell 0
          have ty1 := yT.cell 1
          have ty2 := yT.cell 2
          have ty3 := yT.cell 3
          have tb0 := bT.cell 0
          have tbf := bT.frozen 0
          have tl1 := xT.lt
          have tl2 := yT.lt
          have tl3 := bT.lt
          simp only [List.getElem?_toArray, List.getElem?_cons_succ, List.getElem?_cons_zero] at tx0 tx1 tx2 tx3 ty0 ty1 ty2 ty3 tb0
          have HRXT := Lib.hid (HRX.out.quiet hcT)
          have HCT := Lib.hid hcT
          have HBT := Lib.hid bT
          rw [← hWT]
          clear hWT xT bT yT hcT hcv hc2 u3 uc u5 u6 p3 pc p5 p6 lc2' l3' lBx lBy
          cases hh : t2.has (iN : Nat) xq with
          | false =>
            obtain rfl : E = 11 := by rw [HEE.out]; unfold staleE; rw [hh]; rfl
            have HOF : Hid (okP t2 ⟨(iN : Nat), xq, xb, xp, xa, xm, xc, xn, xl⟩ = false) := Lib.hid (by rw [HOK.out, hh]; rfl)
            clear hh
            gi_wp2
            refine ⟨trivial, ?_⟩
            gi_wp2
            refine ⟨((KeepsOthers.of_chg HCT.out).trans (KeepsOthers.setCell _ _ _)).from _, rfl, ⟨_, HMM.out, HOF.out⟩, by simpa using HBT.out.set_ 0 (.bool false), ((HI.out.2.then HCT.out).any.setCell (p := ⟨w.heap.size + 1, 0, none⟩) (.inl (by simp)) _)⟩
          | true =>
            obtain rfl : E = 0 := by rw [HEE.out]; unfold staleE; rw [hh]; rfl
            have HEQ := Lib.hid (equal63_any (x := ⟨xb, xp, xa, xm, xc, xn, xl⟩) (y := ⟨yb, yp, ya, ym, yc, yn, yl⟩) HRXT.out HRYT.out HLN.out)
            obtain ⟨sb, hsb⟩ : ∃ sb, sb = sameB ⟨xb, xp, xa, xm, xc, xn, xl⟩ ⟨yb, yp, ya, ym, yc, yn, yl⟩ := ⟨_, rfl⟩
            rw [← hsb] at HEQ
            have HOF : Hid (okP t2 ⟨(iN : Nat), xq, xb, xp, xa, xm, xc, xn, xl⟩ = sb) := Lib.hid (by rw [HOK.out, hh, hsb]; rfl)
            clear hh hsb
            cases sb with
            | false =>
              gi_wp2_with (refine ⟨trivial, ?_⟩; gi_at_call 63; refine (callsIn_wide.2 HEQ.out).mono ?_; rintro e V5 ⟨rfl, hc5⟩; have HC5 := Lib.hid (HCT.out.then hc5); have b5 := HBT.out.chg hc5 (by simp); have HB5 := Lib.hid b5; have b50 := b5.cell 0; have b5f := b5.frozen 0; clear hc5 b5)
              refine ⟨((KeepsOthers.of_chg HC5.out).trans (KeepsOthers.setCell _ _ _)).from _, rfl, ⟨_, HMM.out, HOF.out⟩, by simpa using HB5.out.set_ 0 (.bool false), ((HI.out.2.then HC5.out).any.setCell (p := ⟨w.heap.size + 1, 0, none⟩) (.inl (by simp)) _)⟩
            | true =>
              gi_wp2_with (refine ⟨trivial, ?_⟩; gi_at_call 63; refine (callsIn_wide.2 HEQ.out).mono ?_; rintro e V5 ⟨rfl, hc5⟩; have HC5 := Lib.hid (HCT.out.then hc5); clear hc5)
              refine ⟨(KeepsOthers.of_chg HC5.out).from _, KeepP.quiet HC5.out (fun k hk => Nat.lt_of_lt_of_le hk lVq), fun p hp => ?_, HI.out.2.then HC5.out⟩
              rcases List.mem_append.1 hp with h | h
              · exact HI.out.1 p h
              · simp at h
                subst h
                exact HOF.out
      · go_simp
        refine hK _ _ ?_
        clear hK K
        refine wpAnyIn_ready (rs := [3, 9]) (by kernel_rfl) (by simp) ?_
        refine AllReadyIn.cons rfl (fun K hK => ?_) (AllReadyIn.cons rfl (fun K hK => ?_) AllReadyIn.nil)
        · go_simp
          refine hK _ _ ?_
          clear hK K
          refine wpAnyIn_ready (rs := [5, 9]) (by kernel_rfl) (by simp) ?_
          refine AllReadyIn.cons rfl (fun K hK => ?_) (AllReadyIn.cons rfl (fun K hK => ?_) AllReadyIn.nil)
          · go_simp
            (refine ⟨trivial, ?_⟩; refine (callsIn_wide.2 (HGE.out (Vq.drew) ((Chg.refl [] Vq).drew))).mono ?_; rintro e V2 ⟨rfl, hc2, hry⟩; have hcv : Chg [] Vq V2 := ((Chg.refl [] Vq).drew).then hc2; have HRY := Lib.hid hry)
            refine hK _ _ ?_
            clear hK K
            refine wpAnyIn_take (i := 6) (v := .tuple #[.agg #[.int .u64 yb, .int .u64 yp, .slice ya ym yc, .int .i64 yn], .int .i64 E]) rfl rfl (by kernel_rfl) (by kernel_rfl) (by kernel_rfl) (fun _ _ _ h => h) ⟨Or.inl ⟨by rfl, by intro w; go_simp⟩, fun _ => rfl⟩ ?_
            refine wpAnyIn_take (i := 7) (v := .agg #[.int .u64 yb, .int .u64 yp, .slice ya ym yc, .int .i64 yn]) rfl rfl (by kernel_rfl) (by kernel_rfl) (by kernel_rfl) (fun _ _ _ h => h) ⟨Or.inl ⟨by rfl, by intro w; go_simp⟩, fun _ => rfl⟩ ?_
            refine wpAnyIn_take (i := 8) (v := .int .i64 E) rfl rfl (by kernel_rfl) (by kernel_rfl) (by kernel_rfl) (fun _ _ _ h => h) ⟨Or.inl ⟨by rfl, by intro w; go_simp⟩, fun _ => rfl⟩ ?_
            refine wpAnyIn_ready (rs := [9]) (by kernel_rfl) (by simp) ?_
            refine AllReadyIn.cons rfl (fun K hK => ?_) AllReadyIn.nil
            go_simp
            refine hK _ _ ?_
            clear hK K
            refine wpAnyIn_ready (rs := [10]) (by kernel_rfl) (by simp) ?_
            refine AllReadyIn.cons rfl (fun K hK => ?_) AllReadyIn.nil
            go_simp
            refine hK _ _ ?_
            clear hK K
            refine wpAnyIn_ready (rs := [11]) (by kernel_rfl) (by simp) ?_
            refine AllReadyIn.cons rfl (fun K hK => ?_) AllReadyIn.nil
            go_simp
            refine hK _ _ ?_
            clear hK K
            refine wpAnyIn_done (by kernel_rfl) ?_ _
            obtain ⟨WT, hWT⟩ : ∃ WT, WT = V2.alloc (.cells #[.int .u64 yb, .int .u64 yp, .slice ya ym yc, .int .i64 yn] 43) := ⟨_, rfl⟩
            have hcT : Chg [] Vq WT := by rw [hWT]; exact hcv.alloc _
            have yT : Blk WT V2.heap.size 43 #[.int .u64 yb, .int .u64 yp, .slice ya ym yc, .int .i64 yn] := by rw [hWT]; exact Blk.new V2 43 _
            have HRYT : Hid (Rd WT (.slice ya ym yc) yl) := Lib.hid (by rw [hWT]; exact HRY.out.quiet ((Chg.refl _ _).alloc _))
            have xT := HY.out.chg hcT (by simp)
            have bT := H4V.out.chg hcT (by simp)
            have tx0 := xT.cell 0
            have tx1 := xT.cell 1
            have tx2 := xT.cell 2
            have tx3 := xT.cell 3
            have ty0 := yT.cell 0
            have ty1 := yT.cell 1
            have ty2 := yT.cell 2
            have ty3 := yT.cell 3
            have tb0 := bT.cell 0
            have tbf := bT.frozen 0
            have tl1 := xT.lt
            have tl2 := yT.lt
            have tl3 := bT.lt
            simp only [List.getElem?_toArray, List.getElem?_cons_succ, List.getElem?_cons_zero] at tx0 tx1 tx2 tx3 ty0 ty1 ty2 ty3 tb0
            have HRXT := Lib.hid (HRX.out.quiet hcT)
            have HCT := Lib.hid hcT
            have HBT := Lib.hid bT
            rw [← hWT]
            clear hWT xT bT yT hcT hcv hc2 u3 uc u5 u6 p3 pc p5 p6 lc2' l3' lBx lBy
            cases hh : t2.has (iN : Nat) xq with
            | false =>
              obtain rfl : E = 11 := by rw [HEE.out]; unfold staleE; rw [hh]; rfl
              have HOF : Hid (okP t2 ⟨(iN : Nat), xq, xb, xp, xa, xm, xc, xn, xl⟩ = false) := Lib.hid (by rw [HOK.out, hh]; rfl)
              clear hh
              gi_wp2
              refine ⟨trivial, ?_⟩
              gi_wp2
              refine ⟨((KeepsOthers.of_chg HCT.out).trans (KeepsOthers.setCell _ _ _)).from _, rfl, ⟨_, HMM.out, HOF.out⟩, by simpa using HBT.out.set_ 0 (.bool false), ((HI.out.2.then HCT.out).any.setCell (p := ⟨w.heap.size + 1, 0, none⟩) (.inl (by simp)) _)⟩
            | true =>
              obtain rfl : E = 0 := by rw [HEE.out]; unfold staleE; rw [hh]; rfl
              have HEQ := Lib.hid (equal63_any (x := ⟨xb, xp, xa, xm, xc, xn, xl⟩) (y := ⟨yb, yp, ya, ym, yc, yn, yl⟩) HRXT.out HRYT.out HLN.out)
              obtain ⟨sb, hsb⟩ : ∃ sb, sb = sameB ⟨xb, xp, xa, xm, xc, xn, xl⟩ ⟨yb, yp, ya, ym, yc, yn, yl⟩ := ⟨_, rfl⟩
              rw [← hsb] at HEQ
              have HOF : Hid (okP t2 ⟨(iN : Nat), xq, xb, xp, xa, xm, xc, xn, xl⟩ = sb) := Lib.hid (by rw [HOK.out, hh, hsb]; rfl)
              clear hh hsb
              cases sb with
              | false =>
                gi_wp2_with (refine ⟨trivial, ?_⟩; gi_at_call 63; refine (callsIn_wide.2 HEQ.out).mono ?_; rintro e V5 ⟨rfl, hc5⟩; have HC5 := Lib.hid (HCT.out.then hc5); have b5 := HBT.out.chg hc5 (by simp); have HB5 := Lib.hid b5; have b50 := b5.cell 0; have b5f := b5.frozen 0; clear hc5 b5)
                refine ⟨((KeepsOthers.of_chg HC5.out).trans (KeepsOthers.setCell _ _ _)).from _, rfl, ⟨_, HMM.out, HOF.out⟩, by simpa using HB5.out.set_ 0 (.bool false), ((HI.out.2.then HC5.out).any.setCell (p := ⟨w.heap.size + 1, 0, none⟩) (.inl (by simp)) _)⟩
              | true =>
                gi_wp2_with (refine ⟨trivial, ?_⟩; gi_at_call 63; refine (callsIn_wide.2 HEQ.out).mono ?_; rintro e V5 ⟨rfl, hc5⟩; have HC5 := Lib.hid (HCT.out.then hc5); clear hc5)
                refine ⟨(KeepsOthers.of_chg HC5.out).from _, KeepP.quiet HC5.out (fun k hk => Nat.lt_of_lt_of_le hk lVq), fun p hp => ?_, HI.out.2.then HC5.out⟩
                rcases List.mem_append.1 hp with h | h
                · exact HI.out.1 p h
                · simp at h
                  subst h
                  exact HOF.out
          · go_simp
            refine hK _ _ ?_
            clear hK K
            refine wpAnyIn_ready (rs := [5]) (by kernel_rfl) (by simp) ?_
            refine AllReadyIn.cons rfl (fun K hK => ?_) AllReadyIn.nil
            go_simp
            (refine ⟨trivial, ?_⟩; refine (callsIn_wide.2 (HGE.out (Vq.drew.alloc obCx) (((Chg.refl [] Vq).drew).alloc obCx))).mono ?_; rintro e V2 ⟨rfl, hc2, hry⟩; have hcv : Chg [] Vq V2 := (((Chg.refl [] Vq).drew).alloc obCx).then hc2; have HRY := Lib.hid hry; have hyb : Blk V2 Vq.heap.size 43 #[.int .u64 0, .int .u64 0, .slice none 0 0, .int .i64 0] := (Blk.new Vq.drew 43 _).chg hc2 (by simp); have z0 := hyb.cell 0; have z1 := hyb.cell 1; have z2 := hyb.cell 2; have z3 := hyb.cell 3; have zf := hyb.frozen; have lz := hyb.lt)
            refine hK _ _ ?_
            clear hK K
            refine wpAnyIn_take (i := 6) (v := .tuple #[.agg #[.int .u64 yb, .int .u64 yp, .slice ya ym yc, .int .i64 yn], .int .i64 E]) rfl rfl (by kernel_rfl) (by kernel_rfl) (by kernel_rfl) (fun _ _ _ h => h) ⟨Or.inl ⟨by rfl, by intro w; go_simp⟩, fun _ => rfl⟩ ?_
            refine wpAnyIn_take (i := 7) (v := .agg #[.int .u64 yb, .int .u64 yp, .slice ya ym yc, .int .i64 yn]) rfl rfl (by kernel_rfl) (by kernel_rfl) (by kernel_rfl) (fun _ _ _ h => h) ⟨Or.inl ⟨by rfl, by intro w; go_simp⟩, fun _ => rfl⟩ ?_
            refine wpAnyIn_take (i := 8) (v := .int .i64 E) rfl rfl (by kernel_rfl) (by kernel_rfl) (by kernel_rfl) (fun _ _ _ h => h) ⟨Or.inl ⟨by rfl, by intro w; go_simp⟩, fun _ => rfl⟩ ?_
            refine wpAnyIn_ready (rs := [10]) (by kernel_rfl) (by simp) ?_
            refine AllReadyIn.cons rfl (fun K hK => ?_) AllReadyIn.nil
            go_simp
            refine hK _ _ ?_
            clear hK K
            refine wpAnyIn_ready (rs := [11]) (by kernel_rfl) (by simp) ?_
            refine AllReadyIn.cons rfl (fun K hK => ?_) AllReadyIn.nil
            go_simp
            refine hK _ _ ?_
            clear hK K
            refine wpAnyIn_done (by kernel_rfl) ?_ _
            obtain ⟨WT, hWT⟩ : ∃ WT, WT = (((V2.setCell ⟨Vq.heap.size, 0, none⟩ (.int .u64 yb)).setCell ⟨Vq.heap.size, 1, none⟩ (.int .u64 yp)).setCell ⟨Vq.heap.size, 2, none⟩ (.slice ya ym yc)).setCell ⟨Vq.heap.size, 3, none⟩ (.int .i64 yn) := ⟨_, rfl⟩
            have hcT : Chg [] Vq WT := by rw [hWT]; exact (((hcv.setCell (p := ⟨Vq.heap.size, 0, none⟩) (.inr (Nat.le_refl _)) _).setCell (p := ⟨Vq.heap.size, 1, none⟩) (.inr (Nat.le_refl _)) _).setCell (p := ⟨Vq.heap.size, 2, none⟩) (.inr (Nat.le_refl _)) _).setCell (p := ⟨Vq.heap.size, 3, none⟩) (.inr (Nat.le_refl _)) _
            have yT : Blk WT Vq.heap.size 43 #[.int .u64 yb, .int .u64 yp, .slice ya ym yc, .int .i64 yn] := by
              have := (((hyb.set_ 0 (.int .u64 yb)).set_ 1 (.int .u64 yp)).set_ 2 (.slice ya ym yc)).set_ 3 (.int .i64 yn)
              rw [hWT]; simpa using this
            have HRYT : Hid (Rd WT (.slice ya ym yc) yl) := Lib.hid (HRY.out.chg (S := [Vq.heap.size]) (by rw [hWT]; exact ((((Chg.refl [Vq.heap.size] V2).setCell (p := ⟨Vq.heap.size, 0, none⟩) (.inl (by simp)) _).setCell (p := ⟨Vq.heap.size, 1, none⟩) (.inl (by simp)) _).setCell (p := ⟨Vq.heap.size, 2, none⟩) (.inl (by simp)) _).setCell (p := ⟨Vq.heap.size, 3, none⟩) (.inl (by simp)) _) (fun k hk hm => by
              simp at hm
              subst hm
              exact Rs.ty HRY.out hyb (by decide) hk))
            clear hyb z0 z1 z2 z3 zf lz
            have xT := HY.out.chg hcT (by simp)
            have bT := H4V.out.chg hcT (by simp)
            have tx0 := xT.cell 0
            have tx1 := xT.cell 1
            have tx2 := xT.cell 2
            have tx3 := xT.cell 3
            have ty0 := yT.cell 0
            have ty1 := yT.cell 1
            have ty2 := yT.cell 2
            have ty3 := yT.cell 3
            have tb0 := bT.cell 0
            have tbf := bT.frozen 0
            have tl1 := xT.lt
            have tl2 := yT.lt
            have tl3 := bT.lt
            simp only [List.getElem?_toArray, List.getElem?_cons_succ, List.getElem?_cons_zero] at tx0 tx1 tx2 tx3 ty0 ty1 ty2 ty3 tb0
            have HRXT := Lib.hid (HRX.out.quiet hcT)
            have HCT := Lib.hid hcT
            have HBT := Lib.hid bT
            rw [← hWT]
            clear hWT xT bT yT hcT hcv hc2 u3 uc u5 u6 p3 pc p5 p6 lc2' l3' lBx lBy
            cases hh : t2.has (iN : Nat) xq with
            | false =>
              obtain rfl : E = 11 := by rw [HEE.out]; unfold staleE; rw [hh]; rfl
              have HOF : Hid (okP t2 ⟨(iN : Nat), xq, xb, xp, xa, xm, xc, xn, xl⟩ = false) := Lib.hid (by rw [HOK.out, hh]; rfl)
              clear hh
              gi_wp2
              refine ⟨trivial, ?_⟩
              gi_wp2
              refine ⟨((KeepsOthers.of_chg HCT.out).trans (KeepsOthers.setCell _ _ _)).from _, rfl, ⟨_, HMM.out, HOF.out⟩, by simpa using HBT.out.set_ 0 (.bool false), ((HI.out.2.then HCT.out).any.setCell (p := ⟨w.heap.size + 1, 0, none⟩) (.inl (by simp)) _)⟩
            | true =>
              obtain rfl : E = 0 := by rw [HEE.out]; unfold staleE; rw [hh]; rfl
              have HEQ := Lib.hid (equal63_any (x := ⟨xb, xp, xa, xm, xc, xn, xl⟩) (y := ⟨yb, yp, ya, ym, yc, yn, yl⟩) HRXT.out HRYT.out HLN.out)
              obtain ⟨sb, hsb⟩ : ∃ sb, sb = sameB ⟨xb, xp, xa, xm, xc, xn, xl⟩ ⟨yb, yp, ya, ym, yc, yn, yl⟩ := ⟨_, rfl⟩
              rw [← hsb] at HEQ
              have HOF : Hid (okP t2 ⟨(iN : Nat), xq, xb, xp, xa, xm, xc, xn, xl⟩ = sb) := Lib.hid (by rw [HOK.out, hh, hsb]; rfl)
              clear hh hsb
              cases sb with
              | false =>
                gi_wp2_with (refine ⟨trivial, ?_⟩; gi_at_call 63; refine (callsIn_wide.2 HEQ.out).mono ?_; rintro e V5 ⟨rfl, hc5⟩; have HC5 := Lib.hid (HCT.out.then hc5); have b5 := HBT.out.chg hc5 (by simp); have HB5 := Lib.hid b5; have b50 := b5.cell 0; have b5f := b5.frozen 0; clear hc5 b5)
                refine ⟨((KeepsOthers.of_chg HC5.out).trans (KeepsOthers.setCell _ _ _)).from _, rfl, ⟨_, HMM.out, HOF.out⟩, by simpa using HB5.out.set_ 0 (.bool false), ((HI.out.2.then HC5.out).any.setCell (p := ⟨w.heap.size + 1, 0, none⟩) (.inl (by simp)) _)⟩
              | true =>
                gi_wp2_with (refine ⟨trivial, ?_⟩; gi_at_call 63; refine (callsIn_wide.2 HEQ.out).mono ?_; rintro e V5 ⟨rfl, hc5⟩; have HC5 := Lib.hid (HCT.out.then hc5); clear hc5)
                refine ⟨(KeepsOthers.of_chg HC5.out).from _, KeepP.quiet HC5.out (fun k hk => Nat.lt_of_lt_of_le hk lVq), fun p hp => ?_, HI.out.2.then HC5.out⟩
                rcases List.mem_append.1 hp with h | h
                · exact HI.out.1 p h
                · simp at h
                  subst h
                  exact HOF.out
        · go_simp
          refine hK _ _ ?_
          clear hK K
          refine wpAnyIn_ready (rs := [3]) (by kernel_rfl) (by simp) ?_
          refine AllReadyIn.cons rfl (fun K hK => ?_) AllReadyIn.nil
          go_simp
          refine hK _ _ ?_
          clear hK K
          refine wpAnyIn_ready (rs := [5]) (by kernel_rfl) (by simp) ?_
          refine AllReadyIn.cons rfl (fun K hK => ?_) AllReadyIn.nil
          go_simp
          (refine ⟨trivial, ?_⟩; refine (callsIn_wide.2 (HGE.out (Vq.drew.alloc obCx) (((Chg.refl [] Vq).drew).alloc obCx))).mono ?_; rintro e V2 ⟨rfl, hc2, hry⟩; have hcv : Chg [] Vq V2 := (((Chg.refl [] Vq).drew).alloc obCx).then hc2; have HRY := Lib.hid hry; have hyb : Blk V2 Vq.heap.size 43 #[.int .u64 0, .int .u64 0, .slice none 0 0, .int .i64 0] := (Blk.new Vq.drew 43 _).chg hc2 (by simp); have z0 := hyb.cell 0; have z1 := hyb.cell 1; have z2 := hyb.cell 2; have z3 := hyb.cell 3; have zf := hyb.frozen; have lz := hyb.lt)
          refine hK _ _ ?_
          clear hK K
          refine wpAnyIn_take (i := 6) (v := .tuple #[.agg #[.int .u64 yb, .int .u64 yp, .slice ya ym yc, .int .i64 yn], .int .i64 E]) rfl rfl (by kernel_rfl) (by kernel_rfl) (by kernel_rfl) (fun _ _ _ h => h) ⟨Or.inl ⟨by rfl, by intro w; go_simp⟩, fun _ => rfl⟩ ?_
          refine wpAnyIn_take (i := 7) (v := .agg #[.int .u64 yb, .int .u64 yp, .slice ya ym yc, .int .i64 yn]) rfl rfl (by kernel_rfl) (by kernel_rfl) (by kernel_rfl) (fun _ _ _ h => h) ⟨Or.inl ⟨by rfl, by intro w; go_simp⟩, fun _ => rfl⟩ ?_
          refine wpAnyIn_take (i := 8) (v := .int .i64 E) rfl rfl (by kernel_rfl) (by kernel_rfl) (by kernel_rfl) (fun _ _ _ h => h) ⟨Or.inl ⟨by rfl, by intro w; go_simp⟩, fun _ => rfl⟩ ?_
          refine wpAnyIn_ready (rs := [10]) (by kernel_rfl) (by simp) ?_
          refine AllReadyIn.cons rfl (fun K hK => ?_) AllReadyIn.nil
          go_simp
          refine hK _ _ ?_
          clear hK K
          refine wpAnyIn_ready (rs := [11]) (by kernel_rfl) (by simp) ?_
          refine AllReadyIn.cons rfl (fun K hK => ?_) AllReadyIn.nil
          go_simp
          refine hK _ _ ?_
          clear hK K
          refine wpAnyIn_done (by kernel_rfl) ?_ _
          obtain ⟨WT, hWT⟩ : ∃ WT, WT = (((V2.setCell ⟨Vq.heap.size, 0, none⟩ (.int .u64 yb)).setCell ⟨Vq.heap.size, 1, none⟩ (.int .u64 yp)).setCell ⟨Vq.heap.size, 2, none⟩ (.slice ya ym yc)).setCell ⟨Vq.heap.size, 3, none⟩ (.int .i64 yn) := ⟨_, rfl⟩
          have hcT : Chg [] Vq WT := by rw [hWT]; exact (((hcv.setCell (p := ⟨Vq.heap.size, 0, none⟩) (.inr (Nat.le_refl _)) _).setCell (p := ⟨Vq.heap.size, 1, none⟩) (.inr (Nat.le_refl _)) _).setCell (p := ⟨Vq.heap.size, 2, none⟩) (.inr (Nat.le_refl _)) _).setCell (p := ⟨Vq.heap.size, 3, none⟩) (.inr (Nat.le_refl _)) _
          have yT : Blk WT Vq.heap.size 43 #[.int .u64 yb, .int .u64 yp, .slice ya ym yc, .int .i64 yn] := by
            have := (((hyb.set_ 0 (.int .u64 yb)).set_ 1 (.int .u64 yp)).set_ 2 (.slice ya ym yc)).set_ 3 (.int .i64 yn)
            rw [hWT]; simpa using this
          have HRYT : Hid (Rd WT (.slice ya ym yc) yl) := Lib.hid (HRY.out.chg (S := [Vq.heap.size]) (by rw [hWT]; exact ((((Chg.refl [Vq.heap.size] V2).setCell (p := ⟨Vq.heap.size, 0, none⟩) (.inl (by simp)) _).setCell (p := ⟨Vq.heap.size, 1, none⟩) (.inl (by simp)) _).setCell (p := ⟨Vq.heap.size, 2, none⟩) (.inl (by simp)) _).setCell (p := ⟨Vq.heap.size, 3, none⟩) (.inl (by simp)) _) (fun k hk hm => by
            simp at hm
            subst hm
            exact Rs.ty HRY.out hyb (by decide) hk))
          clear hyb z0 z1 z2 z3 zf lz
          have xT := HY.out.chg hcT (by simp)
          have bT := H4V.out.chg hcT (by simp)
          have tx0 := xT.cell 0
          have tx1 := xT.cell 1
          have tx2 := xT.cell 2
          have tx3 := xT.cell 3
          have ty0 := yT.cell 0
          have ty1 := yT.cell 1
          have ty2 := yT.cell 2
          have ty3 := yT.cell 3
          have tb0 := bT.cell 0
          have tbf := bT.frozen 0
          have tl1 := xT.lt
          have tl2 := yT.lt
          have tl3 := bT.lt
          simp only [List.getElem?_toArray, List.getElem?_cons_succ, List.getElem?_cons_zero] at tx0 tx1 tx2 tx3 ty0 ty1 ty2 ty3 tb0
          have HRXT := Lib.hid (HRX.out.quiet hcT)
          have HCT := Lib.hid hcT
          have HBT := Lib.hid bT
          rw [← hWT]
          clear hWT xT bT yT hcT hcv hc2 u3 uc u5 u6 p3 pc p5 p6 lc2' l3' lBx lBy
          cases hh : t2.has (iN : Nat) xq with
          | false =>
            obtain rfl : E = 11 := by rw [HEE.out]; unfold staleE; rw [hh]; rfl
            have HOF : Hid (okP t2 ⟨(iN : Nat), xq, xb, xp, xa, xm, xc, xn, xl⟩ = false) := Lib.hid (by rw [HOK.out, hh]; rfl)
            clear hh
            gi_wp2
            refine ⟨trivial, ?_⟩
            gi_wp2
            refine ⟨((KeepsOthers.of_chg HCT.out).trans (KeepsOthers.setCell _ _ _)).from _, rfl, ⟨_, HMM.out, HOF.out⟩, by simpa using HBT.out.set_ 0 (.bool false), ((HI.out.2.then HCT.out).any.setCell (p := ⟨w.heap.size + 1, 0, none⟩) (.inl (by simp)) _)⟩
          | true =>
            obtain rfl : E = 0 := by rw [HEE.out]; unfold staleE; rw [hh]; rfl
            have HEQ := Lib.hid (equal63_any (x := ⟨xb, xp, xa, xm, xc, xn, xl⟩) (y := ⟨yb, yp, ya, ym, yc, yn, yl⟩) HRXT.out HRYT.out HLN.out)
            obtain ⟨sb, hsb⟩ : ∃ sb, sb = sameB ⟨xb, xp, xa, xm, xc, xn, xl⟩ ⟨yb, yp, ya, ym, yc, yn, yl⟩ := ⟨_, rfl⟩
            rw [← hsb] at HEQ
            have HOF : Hid (okP t2 ⟨(iN : Nat), xq, xb, xp, xa, xm, xc, xn, xl⟩ = sb) := Lib.hid (by rw [HOK.out, hh, hsb]; rfl)
            clear hh hsb
            cases sb with
            | false =>
              gi_wp2_with (refine ⟨trivial, ?_⟩; gi_at_call 63; refine (callsIn_wide.2 HEQ.out).mono ?_; rintro e V5 ⟨rfl, hc5⟩; have HC5 := Lib.hid (HCT.out.then hc5); have b5 := HBT.out.chg hc5 (by simp); have HB5 := Lib.hid b5; have b50 := b5.cell 0; have b5f := b5.frozen 0; clear hc5 b5)
              refine ⟨((KeepsOthers.of_chg HC5.out).trans (KeepsOthers.setCell _ _ _)).from _, rfl, ⟨_, HMM.out, HOF.out⟩, by simpa using HB5.out.set_ 0 (.bool false), ((HI.out.2.then HC5.out).any.setCell (p := ⟨w.heap.size + 1, 0, none⟩) (.inl (by simp)) _)⟩
            | true =>
              gi_wp2_with (refine ⟨trivial, ?_⟩; gi_at_call 63; refine (callsIn_wide.2 HEQ.out).mono ?_; rintro e V5 ⟨rfl, hc5⟩; have HC5 := Lib.hid (HCT.out.then hc5); clear hc5)
              refine ⟨(KeepsOthers.of_chg HC5.out).from _, KeepP.quiet HC5.out (fun k hk => Nat.lt_of_lt_of_le hk lVq), fun p hp => ?_, HI.out.2.then HC5.out⟩
              rcases List.mem_append.1 hp with h | h
              · exact HI.out.1 p h
              · simp at h
                subst h
                exact HOF.out
      · go_simp
        refine hK _ _ ?_
        clear hK K
        refine wpAnyIn_ready (rs := [3, 4]) (by kernel_rfl) (by simp) ?_
        refine AllReadyIn.cons rfl (fun K hK => ?_) (AllReadyIn.cons rfl (fun K hK => ?_) AllReadyIn.nil)
        · go_simp
          refine hK _ _ ?_
          clear hK K
          refine wpAnyIn_ready (rs := [4]) (by kernel_rfl) (by simp) ?_
          refine AllReadyIn.cons rfl (fun K hK => ?_) AllReadyIn.nil
          go_simp
          refine hK _ _ ?_
          clear hK K
          refine wpAnyIn_ready (rs := [5]) (by kernel_rfl) (by simp) ?_
          refine AllReadyIn.cons rfl (fun K hK => ?_) AllReadyIn.nil
          go_simp
          (refine ⟨trivial, ?_⟩; refine (callsIn_wide.2 (HGE.out (Vq.drew.alloc obCx) (((Chg.refl [] Vq).drew).alloc obCx))).mono ?_; rintro e V2 ⟨rfl, hc2, hry⟩; have hcv : Chg [] Vq V2 := (((Chg.refl [] Vq).drew).alloc obCx).then hc2; have HRY := Lib.hid hry; have hyb : Blk V2 Vq.heap.size 43 #[.int .u64 0, .int .u64 0, .slice none 0 0, .int .i64 0] := (Blk.new Vq.drew 43 _).chg hc2 (by simp); have z0 := hyb.cell 0; have z1 := hyb.cell 1; have z2 := hyb.cell 2; have z3 := hyb.cell 3; have zf := hyb.frozen; have lz := hyb.lt)
          refine hK _ _ ?_
          clear hK K
          refine wpAnyIn_take (i := 6) (v := .tuple #[.agg #[.int .u64 yb, .int .u64 yp, .slice ya ym yc, .int .i64 yn], .int .i64 E]) rfl rfl (by kernel_rfl) (by kernel_rfl) (by kernel_rfl) (fun _ _ _ h => h) ⟨Or.inl ⟨by rfl, by intro w; go_simp⟩, fun _ => rfl⟩ ?_
          refine wpAnyIn_take (i := 7) (v := .agg #[.int .u64 yb, .int .u64 yp, .slice ya ym yc, .int .i64 yn]) rfl rfl (by kernel_rfl) (by kernel_rfl) (by kernel_rfl) (fun _ _ _ h => h) ⟨Or.inl ⟨by rfl, by intro w; go_simp⟩, fun _ => rfl⟩ ?_
          refine wpAnyIn_take (i := 8) (v := .int .i64 E) rfl rfl (by kernel_rfl) (by kernel_rfl) (by kernel_rfl) (fun _ _ _ h => h) ⟨Or.inl ⟨by rfl, by intro w; go_simp⟩, fun _ => rfl⟩ ?_
          refine wpAnyIn_ready (rs := [10]) (by kernel_rfl) (by simp) ?_
          refine AllReadyIn.cons rfl (fun K hK => ?_) AllReadyIn.nil
          go_simp
          refine hK _ _ ?_
          clear hK K
          refine wpAnyIn_ready (rs := [11]) (by kernel_rfl) (by simp) ?_
          refine AllReadyIn.cons rfl (fun K hK => ?_) AllReadyIn.nil
          go_simp
          refine hK _ _ ?_
          clear hK K
          refine wpAnyIn_done (by kernel_rfl) ?_ _
          obtain ⟨WT, hWT⟩ : ∃ WT, WT = (((V2.setCell ⟨Vq.heap.size, 0, none⟩ (.int .u64 yb)).setCell ⟨Vq.heap.size, 1, none⟩ (.int .u64 yp)).setCell ⟨Vq.heap.size, 2, none⟩ (.slice ya ym yc)).setCell ⟨Vq.heap.size, 3, none⟩ (.int .i64 yn) := ⟨_, rfl⟩
          have hcT : Chg [] Vq WT := by rw [hWT]; exact (((hcv.setCell (p := ⟨Vq.heap.size, 0, none⟩) (.inr (Nat.le_refl _)) _).setCell (p := ⟨Vq.heap.size, 1, none⟩) (.inr (Nat.le_refl _)) _).setCell (p := ⟨Vq.heap.size, 2, none⟩) (.inr (Nat.le_refl _)) _).setCell (p := ⟨Vq.heap.size, 3, none⟩) (.inr (Nat.le_refl _)) _
          have yT : Blk WT Vq.heap.size 43 #[.int .u64 yb, .int .u64 yp, .slice ya ym yc, .int .i64 yn] := by
            have := (((hyb.set_ 0 (.int .u64 yb)).set_ 1 (.int .u64 yp)).set_ 2 (.slice ya ym yc)).set_ 3 (.int .i64 yn)
            rw [hWT]; simpa using this
          have HRYT : Hid (Rd WT (.slice ya ym yc) yl) := Lib.hid (HRY.out.chg (S := [Vq.heap.size]) (by rw [hWT]; exact ((((Chg.refl [Vq.heap.size] V2).setCell (p := ⟨Vq.heap.size, 0, none⟩) (.inl (by simp)) _).setCell (p := ⟨Vq.heap.size, 1, none⟩) (.inl (by simp)) _).setCell (p := ⟨Vq.heap.size, 2, none⟩) (.inl (by simp)) _).setCell (p := ⟨Vq.heap.size, 3, none⟩) (.inl (by simp)) _) (fun k hk hm => by
            simp at hm
            subst hm
            exact Rs.ty HRY.out hyb (by decide) hk))
          clear hyb z0 z1 z2 z3 zf lz
          have xT := HY.out.chg hcT (by simp)
          have bT := H4V.out.chg hcT (by simp)
          have tx0 := xT.cell 0
          have tx1 := xT.cell 1
          have tx2 := xT.cell 2
          have tx3 := xT.cell 3
          have ty0 := yT.cell 0
          have ty1 := yT.cell 1
          have ty2 := yT.cell 2
          have ty3 := yT.cell 3
          have tb0 := bT.cell 0
          have tbf := bT.frozen 0
          have tl1 := xT.lt
          have tl2 := yT.lt
          have tl3 := bT.lt
          simp only [List.getElem?_toArray, List.getElem?_cons_succ, List.getElem?_cons_zero] at tx0 tx1 tx2 tx3 ty0 ty1 ty2 ty3 tb0
          have HRXT := Lib.hid (HRX.out.quiet hcT)
          have HCT := Lib.hid hcT
          have HBT := Lib.hid bT
          rw [← hWT]
          clear hWT xT bT yT hcT hcv hc2 u3 uc u5 u6 p3 pc p5 p6 lc2' l3' lBx lBy
          cases hh : t2.has (iN : Nat) xq with
          | false =>
            obtain rfl : E = 11 := by rw [HEE.out]; unfold staleE; rw [hh]; rfl
            have HOF : Hid (okP t2 ⟨(iN : Nat), xq, xb, xp, xa, xm, xc, xn, xl⟩ = false) := Lib.hid (by rw [HOK.out, hh]; rfl)
            clear hh
            gi_wp2
            refine ⟨trivial, ?_⟩
            gi_wp2
            refine ⟨((KeepsOthers.of_chg HCT.out).trans (KeepsOthers.setCell _ _ _)).from _, rfl, ⟨_, HMM.out, HOF.out⟩, by simpa using HBT.out.set_ 0 (.bool false), ((HI.out.2.then HCT.out).any.setCell (p := ⟨w.heap.size + 1, 0, none⟩) (.inl (by simp)) _)⟩
          | true =>
            obtain rfl : E = 0 := by rw [HEE.out]; unfold staleE; rw [hh]; rfl
            have HEQ := Lib.hid (equal63_any (x := ⟨xb, xp, xa, xm, xc, xn, xl⟩) (y := ⟨yb, yp, ya, ym, yc, yn, yl⟩) HRXT.out HRYT.out HLN.out)
            obtain ⟨sb, hsb⟩ : ∃ sb, sb = sameB ⟨xb, xp, xa, xm, xc, xn, xl⟩ ⟨yb, yp, ya, ym, yc, yn, yl⟩ := ⟨_, rfl⟩
            rw [← hsb] at HEQ
            have HOF : Hid (okP t2 ⟨(iN : Nat), xq, xb, xp, xa, xm, xc, xn, xl⟩ = sb) := Lib.hid (by rw [HOK.out, hh, hsb]; rfl)
            clear hh hsb
            cases sb with
            | false =>
              gi_wp2_with (refine ⟨trivial, ?_⟩; gi_at_call 63; refine (callsIn_wide.2 HEQ.out).mono ?_; rintro e V5 ⟨rfl, hc5⟩; have HC5 := Lib.hid (HCT.out.then hc5); have b5 := HBT.out.chg hc5 (by simp); have HB5 := Lib.hid b5; have b50 := b5.cell 0; have b5f := b5.frozen 0; clear hc5 b5)
              refine ⟨((KeepsOthers.of_chg HC5.out).trans (KeepsOthers.setCell _ _ _)).from _, rfl, ⟨_, HMM.out, HOF.out⟩, by simpa using HB5.out.set_ 0 (.bool false), ((HI.out.2.then HC5.out).any.setCell (p := ⟨w.heap.size + 1, 0, none⟩) (.inl (by simp)) _)⟩
            | true =>
              gi_wp2_with (refine ⟨trivial, ?_⟩; gi_at_call 63; refine (callsIn_wide.2 HEQ.out).mono ?_; rintro e V5 ⟨rfl, hc5⟩; have HC5 := Lib.hid (HCT.out.then hc5); clear hc5)
              refine ⟨(KeepsOthers.of_chg HC5.out).from _, KeepP.quiet HC5.out (fun k hk => Nat.lt_of_lt_of_le hk lVq), fun p hp => ?_, HI.out.2.then HC5.out⟩
              rcases List.mem_append.1 hp with h | h
              · exact HI.out.1 p h
              · simp at h
                subst h
                exact HOF.out
        · go_simp
          refine hK _ _ ?_
          clear hK K
          refine wpAnyIn_ready (rs := [3]) (by kernel_rfl) (by simp) ?_
          refine AllReadyIn.cons rfl (fun K hK => ?_) AllReadyIn.nil
          go_simp
          refine hK _ _ ?_
          clear hK K
          refine wpAnyIn_ready (rs := [5]) (by kernel_rfl) (by simp) ?_
          refine AllReadyIn.cons rfl (fun K hK => ?_) AllReadyIn.nil
          go_simp
          (refine ⟨trivial, ?_⟩; refine (callsIn_wide.2 (HGE.out (Vq.drew.alloc obCx) (((Chg.refl [] Vq).drew).alloc obCx))).mono ?_; rintro e V2 ⟨rfl, hc2, hry⟩; have hcv : Chg [] Vq V2 := (((Chg.refl [] Vq).drew).alloc obCx).then hc2; have HRY := Lib.hid hry; have hyb : Blk V2 Vq.heap.size 43 #[.int .u64 0, .int .u64 0, .slice none 0 0, .int .i64 0] := (Blk.new Vq.drew 43 _).chg hc2 (by simp); have z0 := hyb.cell 0; have z1 := hyb.cell 1; have z2 := hyb.cell 2; have z3 := hyb.cell 3; have zf := hyb.frozen; have lz := hyb.lt)
          refine hK _ _ ?_
          clear hK K
          refine wpAnyIn_take (i := 6) (v := .tuple #[.agg #[.int .u64 yb, .int .u64 yp, .slice ya ym yc, .int .i64 yn], .int .i64 E]) rfl rfl (by kernel_rfl) (by kernel_rfl) (by kernel_rfl) (fun _ _ _ h => h) ⟨Or.inl ⟨by rfl, by intro w; go_simp⟩, fun _ => rfl⟩ ?_
          refine wpAnyIn_take (i := 7) (v := .agg #[.int .u64 yb, .int .u64 yp, .slice ya ym yc, .int .i64 yn]) rfl rfl (by kernel_rfl) (by kernel_rfl) (by kernel_rfl) (fun _ _ _ h => h) ⟨Or.inl ⟨by rfl, by intro w; go_simp⟩, fun _ => rfl⟩ ?_
          refine wpAnyIn_take (i := 8) (v := .int .i64 E) rfl rfl (by kernel_rfl) (by kernel_rfl) (by kernel_rfl) (fun _ _ _ h => h) ⟨Or.inl ⟨by rfl, by intro w; go_simp⟩, fun _ => rfl⟩ ?_
          refine wpAnyIn_ready (rs := [10]) (by kernel_rfl) (by simp) ?_
          refine AllReadyIn.cons rfl (fun K hK => ?_) AllReadyIn.nil
          go_simp
          refine hK _ _ ?_
          clear hK K
          refine wpAnyIn_ready (rs := [11]) (by kernel_rfl) (by simp) ?_
          refine AllReadyIn.cons rfl (fun K hK => ?_) AllReadyIn.nil
          go_simp
          refine hK _ _ ?_
          clear hK K
          refine wpAnyIn_done (by kernel_rfl) ?_ _
          obtain ⟨WT, hWT⟩ : ∃ WT, WT = (((V2.setCell ⟨Vq.heap.size, 0, none⟩ (.int .u64 yb)).setCell ⟨Vq.heap.size, 1, none⟩ (.int .u64 yp)).setCell ⟨Vq.heap.size, 2, none⟩ (.slice ya ym yc)).setCell ⟨Vq.heap.size, 3, none⟩ (.int .i64 yn) := ⟨_, rfl⟩
          have hcT : Chg [] Vq WT := by rw [hWT]; exact (((hcv.setCell (p := ⟨Vq.heap.size, 0, none⟩) (.inr (Nat.le_refl _)) _).setCell (p := ⟨Vq.heap.size, 1, none⟩) (.inr (Nat.le_refl _)) _).setCell (p := ⟨Vq.heap.size, 2, none⟩) (.inr (Nat.le_refl _)) _).setCell (p := ⟨Vq.heap.size, 3, none⟩) (.inr (Nat.le_refl _)) _
          have yT : Blk WT Vq.heap.size 43 #[.int .u64 yb, .int .u64 yp, .slice ya ym yc, .int .i64 yn] := by
            have := (((hyb.set_ 0 (.int .u64 yb)).set_ 1 (.int .u64 yp)).set_ 2 (.slice ya ym yc)).set_ 3 (.int .i64 yn)
            rw [hWT]; simpa using this
          have HRYT : Hid (Rd WT (.slice ya ym yc) yl) := Lib.hid (HRY.out.chg (S := [Vq.heap.size]) (by rw [hWT]; exact ((((Chg.refl [Vq.heap.size] V2).setCell (p := ⟨Vq.heap.size, 0, none⟩) (.inl (by simp)) _).setCell (p := ⟨Vq.heap.size, 1, none⟩) (.inl (by simp)) _).setCell (p := ⟨Vq.heap.size, 2, none⟩) (.inl (by simp)) _).setCell (p := ⟨Vq.heap.size, 3, none⟩) (.inl (by simp)) _) (fun k hk hm => by
            simp at hm
            subst hm
            exact Rs.ty HRY.out hyb (by decide) hk))
          clear hyb z0 z1 z2 z3 zf lz
          have xT := HY.out.chg hcT (by simp)
          have bT := H4V.out.chg hcT (by simp)
          have tx0 := xT.cell 0
          have tx1 := xT.cell 1
          have tx2 := xT.cell 2
          have tx3 := xT.cell 3
          have ty0 := yT.cell 0
          have ty1 := yT.cell 1
          have ty2 := yT.cell 2
          have ty3 := yT.cell 3
          have tb0 := bT.cell 0
          have tbf := bT.frozen 0
          have tl1 := xT.lt
          have tl2 := yT.lt
          have tl3 := bT.lt
          simp only [List.getElem?_toArray, List.getElem?_cons_succ, List.getElem?_cons_zero] at tx0 tx1 tx2 tx3 ty0 ty1 ty2 ty3 tb0
          have HRXT := Lib.hid (HRX.out.quiet hcT)
          have HCT := Lib.hid hcT
          have HBT := Lib.hid bT
          rw [← hWT]
          clear hWT xT bT yT hcT hcv hc2 u3 uc u5 u6 p3 pc p5 p6 lc2' l3' lBx lBy
          cases hh : t2.has (iN : Nat) xq with
          | false =>
            obtain rfl : E = 11 := by rw [HEE.out]; unfold staleE; rw [hh]; rfl
            have HOF : Hid (okP t2 ⟨(iN : Nat), xq, xb, xp, xa, xm, xc, xn, xl⟩ = false) := Lib.hid (by rw [HOK.out, hh]; rfl)
            clear hh
            gi_wp2
            refine ⟨trivial, ?_⟩
            gi_wp2
            refine ⟨((KeepsOthers.of_chg HCT.out).trans (KeepsOthers.setCell _ _ _)).from _, rfl, ⟨_, HMM.out, HOF.out⟩, by simpa using HBT.out.set_ 0 (.bool false), ((HI.out.2.then HCT.out).any.setCell (p := ⟨w.heap.size + 1, 0, none⟩) (.inl (by simp)) _)⟩
          | true =>
            obtain rfl : E = 0 := by rw [HEE.out]; unfold staleE; rw [hh]; rfl
            have HEQ := Lib.hid (equal63_any (x := ⟨xb, xp, xa, xm, xc, xn, xl⟩) (y := ⟨yb, yp, ya, ym, yc, yn, yl⟩) HRXT.out HRYT.out HLN.out)
            obtain ⟨sb, hsb⟩ : ∃ sb, sb = sameB ⟨xb, xp, xa, xm, xc, xn, xl⟩ ⟨yb, yp, ya, ym, yc, yn, yl⟩ := ⟨_, rfl⟩
            rw [← hsb] at HEQ
            have HOF : Hid (okP t2 ⟨(iN : Nat), xq, xb, xp, xa, xm, xc, xn, xl⟩ = sb) := Lib.hid (by rw [HOK.out, hh, hsb]; rfl)
            clear hh hsb
            cases sb with
            | false =>
              gi_wp2_with (refine ⟨trivial, ?_⟩; gi_at_call 63; refine (callsIn_wide.2 HEQ.out).mono ?_; rintro e V5 ⟨rfl, hc5⟩; have HC5 := Lib.hid (HCT.out.then hc5); have b5 := HBT.out.chg hc5 (by simp); have HB5 := Lib.hid b5; have b50 := b5.cell 0; have b5f := b5.frozen 0; clear hc5 b5)
              refine ⟨((KeepsOthers.of_chg HC5.out).trans (KeepsOthers.setCell _ _ _)).from _, rfl, ⟨_, HMM.out, HOF.out⟩, by simpa using HB5.out.set_ 0 (.bool false), ((HI.out.2.then HC5.out).any.setCell (p := ⟨w.heap.size + 1, 0, none⟩) (.inl (by simp)) _)⟩
            | true =>
              gi_wp2_with (refine ⟨trivial, ?_⟩; gi_at_call 63; refine (callsIn_wide.2 HEQ.out).mono ?_; rintro e V5 ⟨rfl, hc5⟩; have HC5 := Lib.hid (HCT.out.then hc5); clear hc5)
              refine ⟨(KeepsOthers.of_chg HC5.out).from _, KeepP.quiet HC5.out (fun k hk => Nat.lt_of_lt_of_le hk lVq), fun p hp => ?_, HI.out.2.then HC5.out⟩
              rcases List.mem_append.1 hp with h | h
              · exact HI.out.1 p h
              · simp at h
                subst h
                exact HOF.out
    · go_simp
      refine hK _ _ ?_
      clear hK K
      refine wpAnyIn_ready (rs := [0, 9]) (by kernel_rfl) (by simp) ?_
      refine AllReadyIn.cons rfl (fun K hK => ?_) (AllReadyIn.cons rfl (fun K hK => ?_) AllReadyIn.nil)
      · go_simp
        refine hK _ _ ?_
        clear hK K
        refine wpAnyIn_take (i := 1) (v := .pointer (some ⟨c2, 0, none⟩)) rfl rfl (by kernel_rfl) (by kernel_rfl) (by kernel_rfl) (fun _ _ _ h => h) ⟨Or.inl ⟨by rfl, by intro w; go_simp⟩, fun _ => rfl⟩ ?_
        refine wpAnyIn_take (i := 2) (v := .pointer (some ⟨c2, 0, none⟩)) rfl rfl (by kernel_rfl) (by kernel_rfl) (by kernel_rfl) (fun _ _ _ h => h) ⟨Or.inl ⟨by rfl, by intro w; go_simp⟩, fun _ => rfl⟩ ?_
        refine wpAnyIn_ready (rs := [3, 9]) (by kernel_rfl) (by simp) ?_
        refine AllReadyIn.cons rfl (fun K hK => ?_) (AllReadyIn.cons rfl (fun K hK => ?_) AllReadyIn.nil)
        · go_simp
          refine hK _ _ ?_
          clear hK K
          refine wpAnyIn_ready (rs := [5, 9]) (by kernel_rfl) (by simp) ?_
          refine AllReadyIn.cons rfl (fun K hK => ?_) (AllReadyIn.cons rfl (fun K hK => ?_) AllReadyIn.nil)
          · go_simp
            (refine ⟨trivial, ?_⟩; refine (callsIn_wide.2 (HGE.out (Vq.drew) ((Chg.refl [] Vq).drew))).mono ?_; rintro e V2 ⟨rfl, hc2, hry⟩; have hcv : Chg [] Vq V2 := ((Chg.refl [] Vq).drew).then hc2; have HRY := Lib.hid hry)
            refine hK _ _ ?_
            clear hK K
            refine wpAnyIn_take (i := 6) (v := .tuple #[.agg #[.int .u64 yb, .int .u64 yp, .slice ya ym yc, .int .i64 yn], .int .i64 E]) rfl rfl (by kernel_rfl) (by kernel_rfl) (by kernel_rfl) (fun _ _ _ h => h) ⟨Or.inl ⟨by rfl, by intro w; go_simp⟩, fun _ => rfl⟩ ?_
            refine wpAnyIn_take (i := 7) (v := .agg #[.int .u64 yb, .int .u64 yp, .slice ya ym yc, .int .i64 yn]) rfl rfl (by kernel_rfl) (by kernel_rfl) (by kernel_rfl) (fun _ _ _ h => h) ⟨Or.inl ⟨by rfl, by intro w; go_simp⟩, fun _ => rfl⟩ ?_
            refine wpAnyIn_take (i := 8) (v := .int .i64 E) rfl rfl (by kernel_rfl) (by kernel_rfl) (by kernel_rfl) (fun _ _ _ h => h) ⟨Or.inl ⟨by rfl, by intro w; go_simp⟩, fun _ => rfl⟩ ?_
            refine wpAnyIn_ready (rs := [9]) (by kernel_rfl) (by simp) ?_
            refine AllReadyIn.cons rfl (fun K hK => ?_) AllReadyIn.nil
            go_simp
            refine hK _ _ ?_
            clear hK K
            refine wpAnyIn_ready (rs := [10]) (by kernel_rfl) (by simp) ?_
            refine AllReadyIn.cons rfl (fun K hK => ?_) AllReadyIn.nil
            go_simp
            refine hK _ _ ?_
            clear hK K
            refine wpAnyIn_ready (rs := [11]) (by kernel_rfl) (by simp) ?_
            refine AllReadyIn.cons rfl (fun K hK => ?_) AllReadyIn.nil
            go_simp
            refine hK _ _ ?_
            clear hK K
            refine wpAnyIn_done (by kernel_rfl) ?_ _
            obtain ⟨WT, hWT⟩ : ∃ WT, WT = V2.alloc (.cells #[.int .u64 yb, .int .u64 yp, .slice ya ym yc, .int .i64 yn] 43) := ⟨_, rfl⟩
            have hcT : Chg [] Vq WT := by rw [hWT]; exact hcv.alloc _
            have yT : Blk WT V2.heap.size 43 #[.int .u64 yb, .int .u64 yp, .slice ya ym yc, .int .i64 yn] := by rw [hWT]; exact Blk.new V2 43 _
            have HRYT : Hid (Rd WT (.slice ya ym yc) yl) := Lib.hid (by rw [hWT]; exact HRY.out.quiet ((Chg.refl _ _).alloc _))
            have xT := HY.out.chg hcT (by simp)
            have bT := H4V.out.chg hcT (by simp)
            have tx0 := xT.cell 0
            have tx1 := xT.cell 1
            have tx2 := xT.cell 2
            have tx3 := xT.cell 3
            have ty0 := yT.cell 0
            have ty1 := yT.cell 1
            have ty2 := yT.cell 2
            have ty3 := yT.cell 3
            have tb0 := bT.cell 0
            have tbf := bT.frozen 0
            have tl1 := xT.lt
            have tl2 := yT.lt
            have tl3 := bT.lt
            simp only [List.getElem?_toArray, List.getElem?_cons_succ, List.getElem?_cons_zero] at tx0 tx1 tx2 tx3 ty0 ty1 ty2 ty3 tb0
            have HRXT := Lib.hid (HRX.out.quiet hcT)
            have HCT := Lib.hid hcT
            have HBT := Lib.hid bT
            rw [← hWT]
            clear hWT xT bT yT hcT hcv hc2 u3 uc u5 u6 p3 pc p5 p6 lc2' l3' lBx lBy
            cases hh : t2.has (iN : Nat) xq with
            | false =>
              obtain rfl : E = 11 := by rw [HEE.out]; unfold staleE; rw [hh]; rfl
              have HOF : Hid (okP t2 ⟨(iN : Nat), xq, xb, xp, xa, xm, xc, xn, xl⟩ = false) := Lib.hid (by rw [HOK.out, hh]; rfl)
              clear hh
              gi_wp2
              refine ⟨trivial, ?_⟩
              gi_wp2
              refine ⟨((KeepsOthers.of_chg HCT.out).trans (KeepsOthers.setCell _ _ _)).from _, rfl, ⟨_, HMM.out, HOF.out⟩, by simpa using HBT.out.set_ 0 (.bool false), ((HI.out.2.then HCT.out).any.setCell (p := ⟨w.heap.size + 1, 0, none⟩) (.inl (by simp)) _)⟩
            | true =>
              obtain rfl : E = 0 := by rw [HEE.out]; unfold staleE; rw [hh]; rfl
              have HEQ := Lib.hid (equal63_any (x := ⟨xb, xp, xa, xm, xc, xn, xl⟩) (y := ⟨yb, yp, ya, ym, yc, yn, yl⟩) HRXT.out HRYT.out HLN.out)
              obtain ⟨sb, hsb⟩ : ∃ sb, sb = sameB ⟨xb, xp, xa, xm, xc, xn, xl⟩ ⟨yb, yp, ya, ym, yc, yn, yl⟩ := ⟨_, rfl⟩
              rw [← hsb] at HEQ
              have HOF : Hid (okP t2 ⟨(iN : Nat), xq, xb, xp, xa, xm, xc, xn, xl⟩ = sb) := Lib.hid (by rw [HOK.out, hh, hsb]; rfl)
              clear hh hsb
              cases sb with
              | false =>
                gi_wp2_with (refine ⟨trivial, ?_⟩; gi_at_call 63; refine (callsIn_wide.2 HEQ.out).mono ?_; rintro e V5 ⟨rfl, hc5⟩; have HC5 := Lib.hid (HCT.out.then hc5); have b5 := HBT.out.chg hc5 (by simp); have HB5 := Lib.hid b5; have b50 := b5.cell 0; have b5f := b5.frozen 0; clear hc5 b5)
                refine ⟨((KeepsOthers.of_chg HC5.out).trans (KeepsOthers.setCell _ _ _)).from _, rfl, ⟨_, HMM.out, HOF.out⟩, by simpa using HB5.out.set_ 0 (.bool false), ((HI.out.2.then HC5.out).any.setCell (p := ⟨w.heap.size + 1, 0, none⟩) (.inl (by simp)) _)⟩
              | true =>
                gi_wp2_with (refine ⟨trivial, ?_⟩; gi_at_call 63; refine (callsIn_wide.2 HEQ.out).mono ?_; rintro e V5 ⟨rfl, hc5⟩; have HC5 := Lib.hid (HCT.out.then hc5); clear hc5)
                refine ⟨(KeepsOthers.of_chg HC5.out).from _, KeepP.quiet HC5.out (fun k hk => Nat.lt_of_lt_of_le hk lVq), fun p hp => ?_, HI.out.2.then HC5.out⟩
                rcases List.mem_append.1 hp with h | h
                · exact HI.out.1 p h
                · simp at h
                  subst h
                  exact HOF.out
          · go_simp
            refine hK _ _ ?_
            clear hK K
            refine wpAnyIn_ready (rs := [5]) (by kernel_rfl) (by simp) ?_
            refine AllReadyIn.cons rfl (fun K hK => ?_) AllReadyIn.nil
            go_simp
            (refine ⟨trivial, ?_⟩; refine (callsIn_wide.2 (HGE.out (Vq.drew.alloc obCx) (((Chg.refl [] Vq).drew).alloc obCx))).mono ?_; rintro e V2 ⟨rfl, hc2, hry⟩; have hcv : Chg [] Vq V2 := (((Chg.refl [] Vq).drew).alloc obCx).then hc2; have HRY := Lib.hid hry; have hyb : Blk V2 Vq.heap.size 43 #[.int .u64 0, .int .u64 0, .slice none 0 0, .int .i64 0] := (Blk.new Vq.drew 43 _).chg hc2 (by simp); have z0 := hyb.cell 0; have z1 := hyb.cell 1; have z2 := hyb.cell 2; have z3 := hyb.cell 3; have zf := hyb.frozen; have lz := hyb.lt)
            refine hK _ _ ?_
            clear hK K
            refine wpAnyIn_take (i := 6) (v := .tuple #[.agg #[.int .u64 yb, .int .u64 yp, .slice ya ym yc, .int .i64 yn], .int .i64 E]) rfl rfl (by kernel_rfl) (by kernel_rfl) (by kernel_rfl) (fun _ _ _ h => h) ⟨Or.inl ⟨by rfl, by intro w; go_simp⟩, fun _ => rfl⟩ ?_
            refine wpAnyIn_take (i := 7) (v := .agg #[.int .u64 yb, .int .u64 yp, .slice ya ym yc, .int .i64 yn]) rfl rfl (by kernel_rfl) (by kernel_rfl) (by kernel_rfl) (fun _ _ _ h => h) ⟨Or.inl ⟨by rfl, by intro w; go_simp⟩, fun _ => rfl⟩ ?_
            refine wpAnyIn_take (i := 8) (v := .int .i64 E) rfl rfl (by kernel_rfl) (by kernel_rfl) (by kernel_rfl) (fun _ _ _ h => h) ⟨Or.inl ⟨by rfl, by intro w; go_simp⟩, fun _ => rfl⟩ ?_
            refine wpAnyIn_ready (rs := [10]) (by kernel_rfl) (by simp) ?_
            refine AllReadyIn.cons rfl (fun K hK => ?_) AllReadyIn.nil
            go_simp
            refine hK _ _ ?_
            clear hK K
            refine wpAnyIn_ready (rs := [11]) (by kernel_rfl) (by simp) ?_
            refine AllReadyIn.cons rfl (fun K hK => ?_) AllReadyIn.nil
            go_simp
            refine hK _ _ ?_
            clear hK K
            refine wpAnyIn_done (by kernel_rfl) ?_ _
            obtain ⟨WT, hWT⟩ : ∃ WT, WT = (((V2.setCell ⟨Vq.heap.size, 0, none⟩ (.int .u64 yb)).setCell ⟨Vq.heap.size, 1, none⟩ (.int .u64 yp)).setCell ⟨Vq.heap.size, 2, none⟩ (.slice ya ym yc)).setCell ⟨Vq.heap.size, 3, none⟩ (.int .i64 yn) := ⟨_, rfl⟩
            have hcT : Chg [] Vq WT := by rw [hWT]; exact (((hcv.setCell (p := ⟨Vq.heap.size, 0, none⟩) (.inr (Nat.le_refl _)) _).setCell (p := ⟨Vq.heap.size, 1, none⟩) (.inr (Nat.le_refl _)) _).setCell (p := ⟨Vq.heap.size, 2, none⟩) (.inr (Nat.le_refl _)) _).setCell (p := ⟨Vq.heap.size, 3, none⟩) (.inr (Nat.le_refl _)) _
            have yT : Blk WT Vq.heap.size 43 #[.int .u64 yb, .int .u64 yp, .slice ya ym yc, .int .i64 yn] := by
              have := (((hyb.set_ 0 (.int .u64 yb)).set_ 1 (.int .u64 yp)).set_ 2 (.slice ya ym yc)).set_ 3 (.int .i64 yn)
              rw [hWT]; simpa using this
            have HRYT : Hid (Rd WT (.slice ya ym yc) yl) := Lib.hid (HRY.out.chg (S := [Vq.heap.size]) (by rw [hWT]; exact ((((Chg.refl [Vq.heap.size] V2).setCell (p := ⟨Vq.heap.size, 0, none⟩) (.inl (by simp)) _).setCell (p := ⟨Vq.heap.size, 1, none⟩) (.inl (by simp)) _).setCell (p := ⟨Vq.heap.size, 2, none⟩) (.inl (by simp)) _).setCell (p := ⟨Vq.heap.size, 3, none⟩) (.inl (by simp)) _) (fun k hk hm => by
              simp at hm
              subst hm
              exact Rs.ty HRY.out hyb (by decide) hk))
            clear hyb z0 z1 z2 z3 zf lz
            have xT := HY.out.chg hcT (by simp)
            have bT := H4V.out.chg hcT (by simp)
            have tx0 := xT.cell 0
            have tx1 := xT.cell 1
            have tx2 := xT.cell 2
            have tx3 := xT.cell 3
            have ty0 := yT.cell 0
            have ty1 := yT.cell 1
            have ty2 := yT.cell 2
            have ty3 := yT.cell 3
            have tb0 := bT.cell 0
            have tbf := bT.frozen 0
            have tl1 := xT.lt
            have tl2 := yT.lt
            have tl3 := bT.lt
            simp only [List.getElem?_toArray, List.getElem?_cons_succ, List.getElem?_cons_zero] at tx0 tx1 tx2 tx3 ty0 ty1 ty2 ty3 tb0
            have HRXT := Lib.hid (HRX.out.quiet hcT)
            have HCT := Lib.hid hcT
            have HBT := Lib.hid bT
            rw [← hWT]
            clear hWT xT bT yT hcT hcv hc2 u3 uc u5 u6 p3 pc p5 p6 lc2' l3' lBx lBy
            cases hh : t2.has (iN : Nat) xq with
            | false =>
              obtain rfl : E = 11 := by rw [HEE.out]; unfold staleE; rw [hh]; rfl
              have HOF : Hid (okP t2 ⟨(iN : Nat), xq, xb, xp, xa, xm, xc, xn, xl⟩ = false) := Lib.hid (by rw [HOK.out, hh]; rfl)
              clear hh
              gi_wp2
              refine ⟨trivial, ?_⟩
              gi_wp2
              refine ⟨((KeepsOthers.of_chg HCT.out).trans (KeepsOthers.setCell _ _ _)).from _, rfl, ⟨_, HMM.out, HOF.out⟩, by simpa using HBT.out.set_ 0 (.bool false), ((HI.out.2.then HCT.out).any.setCell (p := ⟨w.heap.size + 1, 0, none⟩) (.inl (by simp)) _)⟩
            | true =>
              obtain rfl : E = 0 := by rw [HEE.out]; unfold staleE; rw [hh]; rfl
              have HEQ := Lib.hid (equal63_any (x := ⟨xb, xp, xa, xm, xc, xn, xl⟩) (y := ⟨yb, yp, ya, ym, yc, yn, yl⟩) HRXT.out HRYT.out HLN.out)
              obtain ⟨sb, hsb⟩ : ∃ sb, sb = sameB ⟨xb, xp, xa, xm, xc, xn, xl⟩ ⟨yb, yp, ya, ym, yc, yn, yl⟩ := ⟨_, rfl⟩
              rw [← hsb] at HEQ
              have HOF : Hid (okP t2 ⟨(iN : Nat), xq, xb, xp, xa, xm, xc, xn, xl⟩ = sb) := Lib.hid (by rw [HOK.out, hh, hsb]; rfl)
              clear hh hsb
              cases sb with
              | false =>
                gi_wp2_with (refine ⟨trivial, ?_⟩; gi_at_call 63; refine (callsIn_wide.2 HEQ.out).mono ?_; rintro e V5 ⟨rfl, hc5⟩; have HC5 := Lib.hid (HCT.out.then hc5); have b5 := HBT.out.chg hc5 (by simp); have HB5 := Lib.hid b5; have b50 := b5.cell 0; have b5f := b5.frozen 0; clear hc5 b5)
                refine ⟨((KeepsOthers.of_chg HC5.out).trans (KeepsOthers.setCell _ _ _)).from _, rfl, ⟨_, HMM.out, HOF.out⟩, by simpa using HB5.out.set_ 0 (.bool false), ((HI.out.2.then HC5.out).any.setCell (p := ⟨w.heap.size + 1, 0, none⟩) (.inl (by simp)) _)⟩
              | true =>
                gi_wp2_with (refine ⟨trivial, ?_⟩; gi_at_call 63; refine (callsIn_wide.2 HEQ.out).mono ?_; rintro e V5 ⟨rfl, hc5⟩; have HC5 := Lib.hid (HCT.out.then hc5); clear hc5)
                refine ⟨(KeepsOthers.of_chg HC5.out).from _, KeepP.quiet HC5.out (fun k hk => Nat.lt_of_lt_of_le hk lVq), fun p hp => ?_, HI.out.2.then HC5.out⟩
                rcases List.mem_append.1 hp with h | h
                · exact HI.out.1 p h
                · simp at h
                  subst h
                  exact HOF.out
        · go_simp
          refine hK _ _ ?_
          clear hK K
          refine wpAnyIn_ready (rs := [3]) (by kernel_rfl) (by simp) ?_
          refine AllReadyIn.cons rfl (fun K hK => ?_) AllReadyIn.nil
          go_simp
          refine hK _ _ ?_
          clear hK K
          refine wpAnyIn_ready (rs := [5]) (by kernel_rfl) (by simp) ?_
          refine AllReadyIn.cons rfl (fun K hK => ?_) AllReadyIn.nil
          go_simp
          (refine ⟨trivial, ?_⟩; refine (callsIn_wide.2 (HGE.out (Vq.drew.alloc obCx) (((Chg.refl [] Vq).drew).alloc obCx))).mono ?_; rintro e V2 ⟨rfl, hc2, hry⟩; have hcv : Chg [] Vq V2 := (((Chg.refl [] Vq).drew).alloc obCx).then hc2; have HRY := Lib.hid hry; have hyb : Blk V2 Vq.heap.size 43 #[.int .u64 0, .int .u64 0, .slice none 0 0, .int .i64 0] := (Blk.new Vq.drew 43 _).chg hc2 (by simp); have z0 := hyb.cell 0; have z1 := hyb.cell 1; have z2 := hyb.cell 2; have z3 := hyb.cell 3; have zf := hyb.frozen; have lz := hyb.lt)
          refine hK _ _ ?_
          clear hK K
          refine wpAnyIn_take (i := 6) (v := .tuple #[.agg #[.int .u64 yb, .int .u64 yp, .slice ya ym yc, .int .i64 yn], .int .i64 E]) rfl rfl (by kernel_rfl) (by kernel_rfl) (by kernel_rfl) (fun _ _ _ h => h) ⟨Or.inl ⟨by rfl, by intro w; go_simp⟩, fun _ => rfl⟩ ?_
          refine wpAnyIn_take (i := 7) (v := .agg #[.int .u64 yb, .int .u64 yp, .slice ya ym yc, .int .i64 yn]) rfl rfl (by kernel_rfl) (by kernel_rfl) (by kernel_rfl) (fun _ _ _ h => h) ⟨Or.inl ⟨by rfl, by intro w; go_simp⟩, fun _ => rfl⟩ ?_
          refine wpAnyIn_take (i := 8) (v := .int .i64 E) rfl rfl (by kernel_rfl) (by kernel_rfl) (by kernel_rfl) (fun _ _ _ h => h) ⟨Or.inl ⟨by rfl, by intro w; go_simp⟩, fun _ => rfl⟩ ?_
          refine wpAnyIn_ready (rs := [10]) (by kernel_rfl) (by simp) ?_
          refine AllReadyIn.cons rfl (fun K hK => ?_) AllReadyIn.nil
          go_simp
          refine hK _ _ ?_
          clear hK K
          refine wpAnyIn_ready (rs := [11]) (by kernel_rfl) (by simp) ?_
          refine AllReadyIn.cons rfl (fun K hK => ?_) AllReadyIn.nil
          go_simp
          refine hK _ _ ?_
          clear hK K
          refine wpAnyIn_done (by kernel_rfl) ?_ _
          obtain ⟨WT, hWT⟩ : ∃ WT, WT = (((V2.setCell ⟨Vq.heap.size, 0, none⟩ (.int .u64 yb)).setCell ⟨Vq.heap.size, 1, none⟩ (.int .u64 yp)).setCell ⟨Vq.heap.size, 2, none⟩ (.slice ya ym yc)).setCell ⟨Vq.heap.size, 3, none⟩ (.int .i64 yn) := ⟨_, rfl⟩
          have hcT : Chg [] Vq WT := by rw [hWT]; exact (((hcv.setCell (p := ⟨Vq.heap.size, 0, none⟩) (.inr (Nat.le_refl _)) _).setCell (p := ⟨Vq.heap.size, 1, none⟩) (.inr (Nat.le_refl _)) _).setCell (p := ⟨Vq.heap.size, 2, none⟩) (.inr (Nat.le_refl _)) _).setCell (p := ⟨Vq.heap.size, 3, none⟩) (.inr (Nat.le_refl _)) _
          have yT : Blk WT Vq.heap.size 43 #[.int .u64 yb, .int .u64 yp, .slice ya ym yc, .int .i64 yn] := by
            have := (((hyb.set_ 0 (.int .u64 yb)).set_ 1 (.int .u64 yp)).set_ 2 (.slice ya ym yc)).set_ 3 (.int .i64 yn)
            rw [hWT]; simpa using this
          have HRYT : Hid (Rd WT (.slice ya ym yc) yl) := Lib.hid (HRY.out.chg (S := [Vq.heap.size]) (by rw [hWT]; exact ((((Chg.refl [Vq.heap.size] V2).setCell (p := ⟨Vq.heap.size, 0, none⟩) (.inl (by simp)) _).setCell (p := ⟨Vq.heap.size, 1, none⟩) (.inl (by simp)) _).setCell (p := ⟨Vq.heap.size, 2, none⟩) (.inl (by simp)) _).setCell (p := ⟨Vq.heap.size, 3, none⟩) (.inl (by simp)) _) (fun k hk hm => by
            simp at hm
            subst hm
            exact Rs.ty HRY.out hyb (by decide) hk))
          clear hyb z0 z1 z2 z3 zf lz
          have xT := HY.out.chg hcT (by simp)
          have bT := H4V.out.chg hcT (by simp)
          have tx0 := xT.cell 0
          have tx1 := xT.cell 1
          have tx2 := xT.cell 2
          have tx3 := xT.cell 3
          have ty0 := yT.cell 0
          have ty1 := yT.cell 1
          have ty2 := yT.cell 2
          have ty3 := yT.cell 3
          have tb0 := bT.cell 0
          have tbf := bT.frozen 0
          have tl1 := xT.lt
          have tl2 := yT.lt
          have tl3 := bT.lt
          simp only [List.getElem?_toArray, List.getElem?_cons_succ, List.getElem?_cons_zero] at tx0 tx1 tx2 tx3 ty0 ty1 ty2 ty3 tb0
          have HRXT := Lib.hid (HRX.out.quiet hcT)
          have HCT := Lib.hid hcT
          have HBT := Lib.hid bT
          rw [← hWT]
          clear hWT xT bT yT hcT hcv hc2 u3 uc u5 u6 p3 pc p5 p6 lc2' l3' lBx lBy
          cases hh : t2.has (iN : Nat) xq with
          | false =>
            obtain rfl : E = 11 := by rw [HEE.out]; unfold staleE; rw [hh]; rfl
            have HOF : Hid (okP t2 ⟨(iN : Nat), xq, xb, xp, xa, xm, xc, xn, xl⟩ = false) := Lib.hid (by rw [HOK.out, hh]; rfl)
            clear hh
            gi_wp2
            refine ⟨trivial, ?_⟩
            gi_wp2
            refine ⟨((KeepsOthers.of_chg HCT.out).trans (KeepsOthers.setCell _ _ _)).from _, rfl, ⟨_, HMM.out, HOF.out⟩, by simpa using HBT.out.set_ 0 (.bool false), ((HI.out.2.then HCT.out).any.setCell (p := ⟨w.heap.size + 1, 0, none⟩) (.inl (by simp)) _)⟩
          | true =>
            obtain rfl : E = 0 := by rw [HEE.out]; unfold staleE; rw [hh]; rfl
            have HEQ := Lib.hid (equal63_any (x := ⟨xb, xp, xa, xm, xc, xn, xl⟩) (y := ⟨yb, yp, ya, ym, yc, yn, yl⟩) HRXT.out HRYT.out HLN.out)
            obtain ⟨sb, hsb⟩ : ∃ sb, sb = sameB ⟨xb, xp, xa, xm, xc, xn, xl⟩ ⟨yb, yp, ya, ym, yc, yn, yl⟩ := ⟨_, rfl⟩
            rw [← hsb] at HEQ
            have HOF : Hid (okP t2 ⟨(iN : Nat), xq, xb, xp, xa, xm, xc, xn, xl⟩ = sb) := Lib.hid (by rw [HOK.out, hh, hsb]; rfl)
            clear hh hsb
            cases sb with
            | false =>
              gi_wp2_with (refine ⟨trivial, ?_⟩; gi_at_call 63; refine (callsIn_wide.2 HEQ.out).mono ?_; rintro e V5 ⟨rfl, hc5⟩; have HC5 := Lib.hid (HCT.out.then hc5); have b5 := HBT.out.chg hc5 (by simp); have HB5 := Lib.hid b5; have b50 := b5.cell 0; have b5f := b5.frozen 0; clear hc5 b5)
              refine ⟨((KeepsOthers.of_chg HC5.out).trans (KeepsOthers.setCell _ _ _)).from _, rfl, ⟨_, HMM.out, HOF.out⟩, by simpa using HB5.out.set_ 0 (.bool false), ((HI.out.2.then HC5.out).any.setCell (p := ⟨w.heap.size + 1, 0, none⟩) (.inl (by simp)) _)⟩
            | true =>
              gi_wp2_with (refine ⟨trivial, ?_⟩; gi_at_call 63; refine (callsIn_wide.2 HEQ.out).mono ?_; rintro e V5 ⟨rfl, hc5⟩; have HC5 := Lib.hid (HCT.out.then hc5); clear hc5)
              refine ⟨(KeepsOthers.of_chg HC5.out).from _, KeepP.quiet HC5.out (fun k hk => Nat.lt_of_lt_of_le hk lVq), fun p hp => ?_, HI.out.2.then HC5.out⟩
              rcases List.mem_append.1 hp with h | h
              · exact HI.out.1 p h
              · simp at h
                subst h
                exact HOF.out
      · go_simp
        refine hK _ _ ?_
        clear hK K
        refine wpAnyIn_ready (rs := [0]) (by kernel_rfl) (by simp) ?_
        refine AllReadyIn.cons rfl (fun K hK => ?_) AllReadyIn.nil
        go_simp
        refine hK _ _ ?_
        clear hK K
        refine wpAnyIn_take (i := 1) (v := .pointer (some ⟨c2, 0, none⟩)) rfl rfl (by kernel_rfl) (by kernel_rfl) (by kernel_rfl) (fun _ _ _ h => h) ⟨Or.inl ⟨by rfl, by intro w; go_simp⟩, fun _ => rfl⟩ ?_
        refine wpAnyIn_take (i := 2) (v := .pointer (some ⟨c2, 0, none⟩)) rfl rfl (by kernel_rfl) (by kernel_rfl) (by kernel_rfl) (fun _ _ _ h => h) ⟨Or.inl ⟨by rfl, by intro w; go_simp⟩, fun _ => rfl⟩ ?_
        refine wpAnyIn_ready (rs := [3]) (by kernel_rfl) (by simp) ?_
        refine AllReadyIn.cons rfl (fun K hK => ?_) AllReadyIn.nil
        go_simp
        refine hK _ _ ?_
        clear hK K
        refine wpAnyIn_ready (rs := [5]) (by kernel_rfl) (by simp) ?_
        refine AllReadyIn.cons rfl (fun K hK => ?_) AllReadyIn.nil
        go_simp
        (refine ⟨trivial, ?_⟩; refine (callsIn_wide.2 (HGE.out (Vq.drew.alloc obCx) (((Chg.refl [] Vq).drew).alloc obCx))).mono ?_; rintro e V2 ⟨rfl, hc2, hry⟩; have hcv : Chg [] Vq V2 := (((Chg.refl [] Vq).drew).alloc obCx).then hc2; have HRY := Lib.hid hry; have hyb : Blk V2 Vq.heap.size 43 #[.int .u64 0, .int .u64 0, .slice none 0 0, .int .i64 0] := (Blk.new Vq.drew 43 _).chg hc2 (by simp); have z0 := hyb.cell 0; have z1 := hyb.cell 1; have z2 := hyb.cell 2; have z3 := hyb.cell 3; have zf := hyb.frozen; have lz := hyb.lt)
        refine hK _ _ ?_
        clear hK K
        refine wpAnyIn_take (i := 6) (v := .tuple #[.agg #[.int .u64 yb, .int .u64 yp, .slice ya ym yc, .int .i64 yn], .int .i64 E]) rfl rfl (by kernel_rfl) (by kernel_rfl) (by kernel_rfl) (fun _ _ _ h => h) ⟨Or.inl ⟨by rfl, by intro w; go_simp⟩, fun _ => rfl⟩ ?_
        refine wpAnyIn_take (i := 7) (v := .agg #[.int .u64 yb, .int .u64 yp, .slice ya ym yc, .int .i64 yn]) rfl rfl (by kernel_rfl) (by kernel_rfl) (by kernel_rfl) (fun _ _ _ h => h) ⟨Or.inl ⟨by rfl, by intro w; go_simp⟩, fun _ => rfl⟩ ?_
        refine wpAnyIn_take (i := 8) (v := .int .i64 E) rfl rfl (by kernel_rfl) (by kernel_rfl) (by kernel_rfl) (fun _ _ _ h => h) ⟨Or.inl ⟨by rfl, by intro w; go_simp⟩, fun _ => rfl⟩ ?_
        refine wpAnyIn_ready (rs := [10]) (by kernel_rfl) (by simp) ?_
        refine AllReadyIn.cons rfl (fun K hK => ?_) AllReadyIn.nil
        go_simp
        refine hK _ _ ?_
        clear hK K
        refine wpAnyIn_ready (rs := [11]) (by kernel_rfl) (by simp) ?_
        refine AllReadyIn.cons rfl (fun K hK => ?_) AllReadyIn.nil
        go_simp
        refine hK _ _ ?_
        clear hK K
        refine wpAnyIn_done (by kernel_rfl) ?_ _
        obtain ⟨WT, hWT⟩ : ∃ WT, WT = (((V2.setCell ⟨Vq.heap.size, 0, none⟩ (.int .u64 yb)).setCell ⟨Vq.heap.size, 1, none⟩ (.int .u64 yp)).setCell ⟨Vq.heap.size, 2, none⟩ (.slice ya ym yc)).setCell ⟨Vq.heap.size, 3, none⟩ (.int .i64 yn) := ⟨_, rfl⟩
        have hcT : Chg [] Vq WT := by rw [hWT]; exact (((hcv.setCell (p := ⟨Vq.heap.size, 0, none⟩) (.inr (Nat.le_refl _)) _).setCell (p := ⟨Vq.heap.size, 1, none⟩) (.inr (Nat.le_refl _)) _).setCell (p := ⟨Vq.heap.size, 2, none⟩) (.inr (Nat.le_refl _)) _).setCell (p := ⟨Vq.heap.size, 3, none⟩) (.inr (Nat.le_refl _)) _
        have yT : Blk WT Vq.heap.size 43 #[.int .u64 yb, .int .u64 yp, .slice ya ym yc, .int .i64 yn] := by
          have := (((hyb.set_ 0 (.int .u64 yb)).set_ 1 (.int .u64 yp)).set_ 2 (.slice ya ym yc)).set_ 3 (.int .i64 yn)
          rw [hWT]; simpa using this
        have HRYT : Hid (Rd WT (.slice ya ym yc) yl) := Lib.hid (HRY.out.chg (S := [Vq.heap.size]) (by rw [hWT]; exact ((((Chg.refl [Vq.heap.size] V2).setCell (p := ⟨Vq.heap.size, 0, none⟩) (.inl (by simp)) _).setCell (p := ⟨Vq.heap.size, 1, none⟩) (.inl (by simp)) _).setCell (p := ⟨Vq.heap.size, 2, none⟩) (.inl (by simp)) _).setCell (p := ⟨Vq.heap.size, 3, none⟩) (.inl (by simp)) _) (fun k hk hm => by
          simp at hm
          subst hm
          exact Rs.ty HRY.out hyb (by decide) hk))
        clear hyb z0 z1 z2 z3 zf lz
        have xT := HY.out.chg hcT (by simp)
        have bT := H4V.out.chg hcT (by simp)
        have tx0 := xT.cell 0
        have tx1 := xT.cell 1
        have tx2 := xT.cell 2
        have tx3 := xT.cell 3
        have ty0 := yT.cell 0
        have ty1 := yT.cell 1
        have ty2 := yT.cell 2
        have ty3 := yT.cell 3
        have tb0 := bT.cell 0
        have tbf := bT.frozen 0
        have tl1 := xT.lt
        have tl2 := yT.lt
        have tl3 := bT.lt
        simp only [List.getElem?_toArray, List.getElem?_cons_succ, List.getElem?_cons_zero] at tx0 tx1 tx2 tx3 ty0 ty1 ty2 ty3 tb0
        have HRXT := Lib.hid (HRX.out.quiet hcT)
        have HCT := Lib.hid hcT
        have HBT := Lib.hid bT
        rw [← hWT]
        clear hWT xT bT yT hcT hcv hc2 u3 uc u5 u6 p3 pc p5 p6 lc2' l3' lBx lBy
        cases hh : t2.has (iN : Nat) xq with
        | false =>
          obtain rfl : E = 11 := by rw [HEE.out]; unfold staleE; rw [hh]; rfl
          have HOF : Hid (okP t2 ⟨(iN : Nat), xq, xb, xp, xa, xm, xc, xn, xl⟩ = false) := Lib.hid (by rw [HOK.out, hh]; rfl)
          clear hh
          gi_wp2
          refine ⟨trivial, ?_⟩
          gi_wp2
          refine ⟨((KeepsOthers.of_chg HCT.out).trans (KeepsOthers.setCell _ _ _)).from _, rfl, ⟨_, HMM.out, HOF.out⟩, by simpa using HBT.out.set_ 0 (.bool false), ((HI.out.2.then HCT.out).any.setCell (p := ⟨w.heap.size + 1, 0, none⟩) (.inl (by simp)) _)⟩
        | true =>
          obtain rfl : E = 0 := by rw [HEE.out]; unfold staleE; rw [hh]; rfl
          have HEQ := Lib.hid (equal63_any (x := ⟨xb, xp, xa, xm, xc, xn, xl⟩) (y := ⟨yb, yp, ya, ym, yc, yn, yl⟩) HRXT.out HRYT.out HLN.out)
          obtain ⟨sb, hsb⟩ : ∃ sb, sb = sameB ⟨xb, xp, xa, xm, xc, xn, xl⟩ ⟨yb, yp, ya, ym, yc, yn, yl⟩ := ⟨_, rfl⟩
          rw [← hsb] at HEQ
          have HOF : Hid (okP t2 ⟨(iN : Nat), xq, xb, xp, xa, xm, xc, xn, xl⟩ = sb) := Lib.hid (by rw [HOK.out, hh, hsb]; rfl)
          clear hh hsb
          cases sb with
          | false =>
            gi_wp2_with (refine ⟨trivial, ?_⟩; gi_at_call 63; refine (callsIn_wide.2 HEQ.out).mono ?_; rintro e V5 ⟨rfl, hc5⟩; have HC5 := Lib.hid (HCT.out.then hc5); have b5 := HBT.out.chg hc5 (by simp); have HB5 := Lib.hid b5; have b50 := b5.cell 0; have b5f := b5.frozen 0; clear hc5 b5)
            refine ⟨((KeepsOthers.of_chg HC5.out).trans (KeepsOthers.setCell _ _ _)).from _, rfl, ⟨_, HMM.out, HOF.out⟩, by simpa using HB5.out.set_ 0 (.bool false), ((HI.out.2.then HC5.out).any.setCell (p := ⟨w.heap.size + 1, 0, none⟩) (.inl (by simp)) _)⟩
          | true =>
            gi_wp2_with (refine ⟨trivial, ?_⟩; gi_at_call 63; refine (callsIn_wide.2 HEQ.out).mono ?_; rintro e V5 ⟨rfl, hc5⟩; have HC5 := Lib.hid (HCT.out.then hc5); clear hc5)
            refine ⟨(KeepsOthers.of_chg HC5.out).from _, KeepP.quiet HC5.out (fun k hk => Nat.lt_of_lt_of_le hk lVq), fun p hp => ?_, HI.out.2.then HC5.out⟩
            rcases List.mem_append.1 hp with h | h
            · exact HI.out.1 p h
            · simp at h
              subst h
              exact HOF.out
    · go_simp
      refine hK _ _ ?_
      clear hK K
      refine wpAnyIn_ready (rs := [0, 4]) (by kernel_rfl) (by simp) ?_
      refine AllReadyIn.cons rfl (fun K hK => ?_) (AllReadyIn.cons rfl (fun K hK => ?_) AllReadyIn.nil)
      · go_simp
        refine hK _ _ ?_
        clear hK K
        refine wpAnyIn_take (i := 1) (v := .pointer (some ⟨c2, 0, none⟩)) rfl rfl (by kernel_rfl) (by kernel_rfl) (by kernel_rfl) (fun _ _ _ h => h) ⟨Or.inl ⟨by rfl, by intro w; go_simp⟩, fun _ => rfl⟩ ?_
        refine wpAnyIn_take (i := 2) (v := .pointer (some ⟨c2, 0, none⟩)) rfl rfl (by kernel_rfl) (by kernel_rfl) (by kernel_rfl) (fun _ _ _ h => h) ⟨Or.inl ⟨by rfl, by intro w; go_simp⟩, fun _ => rfl⟩ ?_
        refine wpAnyIn_ready (rs := [3, 4]) (by kernel_rfl) (by simp) ?_
        refine AllReadyIn.cons rfl (fun K hK => ?_) (AllReadyIn.cons rfl (fun K hK => ?_) AllReadyIn.nil)
        · go_simp
          refine hK _ _ ?_
          clear hK K
          refine wpAnyIn_ready (rs := [4]) (by kernel_rfl) (by simp) ?_
          refine AllReadyIn.cons rfl (fun K hK => ?_) AllReadyIn.nil
          go_simp
          refine hK _ _ ?_
          clear hK K
          refine wpAnyIn_ready (rs := [5]) (by kernel_rfl) (by simp) ?_
          refine AllReadyIn.cons rfl (fun K hK => ?_) AllReadyIn.nil
          go_simp
          (refine ⟨trivial, ?_⟩; refine (callsIn_wide.2 (HGE.out (Vq.drew.alloc obCx) (((Chg.refl [] Vq).drew).alloc obCx))).mono ?_; rintro e V2 ⟨rfl, hc2, hry⟩; have hcv : Chg [] Vq V2 := (((Chg.refl [] Vq).drew).alloc obCx).then hc2; have HRY := Lib.hid hry; have hyb : Blk V2 Vq.heap.size 43 #[.int .u64 0, .int .u64 0, .slice none 0 0, .int .i64 0] := (Blk.new Vq.drew 43 _).chg hc2 (by simp); have z0 := hyb.cell 0; have z1 := hyb.cell 1; have z2 := hyb.cell 2; have z3 := hyb.cell 3; have zf := hyb.frozen; have lz := hyb.lt)
          refine hK _ _ ?_
          clear hK K
          refine wpAnyIn_take (i := 6) (v := .tuple #[.agg #[.int .u64 yb, .int .u64 yp, .slice ya ym yc, .int .i64 yn], .int .i64 E]) rfl rfl (by kernel_rfl) (by kernel_rfl) (by kernel_rfl) (fun _ _ _ h => h) ⟨Or.inl ⟨by rfl, by intro w; go_simp⟩, fun _ => rfl⟩ ?_
          refine wpAnyIn_take (i := 7) (v := .agg #[.int .u64 yb, .int .u64 yp, .slice ya ym yc, .int .i64 yn]) rfl rfl (by kernel_rfl) (by kernel_rfl) (by kernel_rfl) (fun _ _ _ h => h) ⟨Or.inl ⟨by rfl, by intro w; go_simp⟩, fun _ => rfl⟩ ?_
          refine wpAnyIn_take (i := 8) (v := .int .i64 E) rfl rfl (by kernel_rfl) (by kernel_rfl) (by kernel_rfl) (fun _ _ _ h => h) ⟨Or.inl ⟨by rfl, by intro w; go_simp⟩, fun _ => rfl⟩ ?_
          refine wpAnyIn_ready (rs := [10]) (by kernel_rfl) (by simp) ?_
          refine AllReadyIn.cons rfl (fun K hK => ?_) AllReadyIn.nil
          go_simp
          refine hK _ _ ?_
          clear hK K
          refine wpAnyIn_ready (rs := [11]) (by kernel_rfl) (by simp) ?_
          refine AllReadyIn.cons rfl (fun K hK => ?_) AllReadyIn.nil
          go_simp
          refine hK _ _ ?_
          clear hK K
          refine wpAnyIn_done (by kernel_rfl) ?_ _
          obtain ⟨WT, hWT⟩ : ∃ WT, WT = (((V2.setCell ⟨Vq.heap.size, 0, none⟩ (.int .u64 yb)).setCell ⟨Vq.heap.size, 1, none⟩ (.int .u64 yp)).setCell ⟨Vq.heap.size, 2, none⟩ (.slice ya ym yc)).setCell ⟨Vq.heap.size, 3, none⟩ (.int .i64 yn) := ⟨_, rfl⟩
          have hcT : Chg [] Vq WT := by rw [hWT]; exact (((hcv.setCell (p := ⟨Vq.heap.size, 0, none⟩) (.inr (Nat.le_refl _)) _).setCell (p := ⟨Vq.heap.size, 1, none⟩) (.inr (Nat.le_refl _)) _).setCell (p := ⟨Vq.heap.size, 2, none⟩) (.inr (Nat.le_refl _)) _).setCell (p := ⟨Vq.heap.size, 3, none⟩) (.inr (Nat.le_refl _)) _
          have yT : Blk WT Vq.heap.size 43 #[.int .u64 yb, .int .u64 yp, .slice ya ym yc, .int .i64 yn] := by
            have := (((hyb.set_ 0 (.int .u64 yb)).set_ 1 (.int .u64 yp)).set_ 2 (.slice ya ym yc)).set_ 3 (.int .i64 yn)
            rw [hWT]; simpa using this
          have HRYT : Hid (Rd WT (.slice ya ym yc) yl) := Lib.hid (HRY.out.chg (S := [Vq.heap.size]) (by rw [hWT]; exact ((((Chg.refl [Vq.heap.size] V2).setCell (p := ⟨Vq.heap.size, 0, none⟩) (.inl (by simp)) _).setCell (p := ⟨Vq.heap.size, 1, none⟩) (.inl (by simp)) _).setCell (p := ⟨Vq.heap.size, 2, none⟩) (.inl (by simp)) _).setCell (p := ⟨Vq.heap.size, 3, none⟩) (.inl (by simp)) _) (fun k hk hm => by
            simp at hm
            subst hm
            exact Rs.ty HRY.out hyb (by decide) hk))
          clear hyb z0 z1 z2 z3 zf lz
          have xT := HY.out.chg hcT (by simp)
          have bT := H4V.out.chg hcT (by simp)
          have tx0 := xT.cell 0
          have tx1 := xT.cell 1
          have tx2 := xT.cell 2
          have tx3 := xT.cell 3
          have ty0 := yT.cell 0
          have ty1 := yT.cell 1
          have ty2 := yT.cell 2
          have ty3 := yT.cell 3
          have tb0 := bT.cell 0
          have tbf := bT.frozen 0
          have tl1 := xT.lt
          have tl2 := yT.lt
          have tl3 := bT.lt
          simp only [List.getElem?_toArray, List.getElem?_cons_succ, List.getElem?_cons_zero] at tx0 tx1 tx2 tx3 ty0 ty1 ty2 ty3 tb0
          have HRXT := Lib.hid (HRX.out.quiet hcT)
          have HCT := Lib.hid hcT
          have HBT := Lib.hid bT
          rw [← hWT]
          clear hWT xT bT yT hcT hcv hc2 u3 uc u5 u6 p3 pc p5 p6 lc2' l3' lBx lBy
          cases hh : t2.has (iN : Nat) xq with
          | false =>
            obtain rfl : E = 11 := by rw [HEE.out]; unfold staleE; rw [hh]; rfl
            have HOF : Hid (okP t2 ⟨(iN : Nat), xq, xb, xp, xa, xm, xc, xn, xl⟩ = false) := Lib.hid (by rw [HOK.out, hh]; rfl)
            clear hh
            gi_wp2
            refine ⟨trivial, ?_⟩
            gi_wp2
            refine ⟨((KeepsOthers.of_chg HCT.out).trans (KeepsOthers.setCell _ _ _)).from _, rfl, ⟨_, HMM.out, HOF.out⟩, by simpa using HBT.out.set_ 0 (.bool false), ((HI.out.2.then HCT.out).any.setCell (p := ⟨w.heap.size + 1, 0, none⟩) (.inl (by simp)) _)⟩
          | true =>
            obtain rfl : E = 0 := by rw [HEE.out]; unfold staleE; rw [hh]; rfl
            have HEQ := Lib.hid (equal63_any (x := ⟨xb, xp, xa, xm, xc, xn, xl⟩) (y := ⟨yb, yp, ya, ym, yc, yn, yl⟩) HRXT.out HRYT.out HLN.out)
            obtain ⟨sb, hsb⟩ : ∃ sb, sb = sameB ⟨xb, xp, xa, xm, xc, xn, xl⟩ ⟨yb, yp, ya, ym, yc, yn, yl⟩ := ⟨_, rfl⟩
            rw [← hsb] at HEQ
            have HOF : Hid (okP t2 ⟨(iN : Nat), xq, xb, xp, xa, xm, xc, xn, xl⟩ = sb) := Lib.hid (by rw [HOK.out, hh, hsb]; rfl)
            clear hh hsb
            cases sb with
            | false =>
              gi_wp2_with (refine ⟨trivial, ?_⟩; gi_at_call 63; refine (callsIn_wide.2 HEQ.out).mono ?_; rintro e V5 ⟨rfl, hc5⟩; have HC5 := Lib.hid (HCT.out.then hc5); have b5 := HBT.out.chg hc5 (by simp); have HB5 := Lib.hid b5; have b50 := b5.cell 0; have b5f := b5.frozen 0; clear hc5 b5)
              refine ⟨((KeepsOthers.of_chg HC5.out).trans (KeepsOthers.setCell _ _ _)).from _, rfl, ⟨_, HMM.out, HOF.out⟩, by simpa using HB5.out.set_ 0 (.bool false), ((HI.out.2.then HC5.out).any.setCell (p := ⟨w.heap.size + 1, 0, none⟩) (.inl (by simp)) _)⟩
            | true =>
              gi_wp2_with (refine ⟨trivial, ?_⟩; gi_at_call 63; refine (callsIn_wide.2 HEQ.out).mono ?_; rintro e V5 ⟨rfl, hc5⟩; have HC5 := Lib.hid (HCT.out.then hc5); clear hc5)
              refine ⟨(KeepsOthers.of_chg HC5.out).from _, KeepP.quiet HC5.out (fun k hk => Nat.lt_of_lt_of_le hk lVq), fun p hp => ?_, HI.out.2.then HC5.out⟩
              rcases List.mem_append.1 hp with h | h
              · exact HI.out.1 p h
              · simp at h
                subst h
                exact HOF.out
        · go_simp
          refine hK _ _ ?_
          clear hK K
          refine wpAnyIn_ready (rs := [3]) (by kernel_rfl) (by simp) ?_
          refine AllReadyIn.cons rfl (fun K hK => ?_) AllReadyIn.nil
          go_simp
          refine hK _ _ ?_
          clear hK K
          refine wpAnyIn_ready (rs := [5]) (by kernel_rfl) (by simp) ?_
          refine AllReadyIn.cons rfl (fun K hK => ?_) AllReadyIn.nil
          go_simp
          (refine ⟨trivial, ?_⟩; refine (callsIn_wide.2 (HGE.out (Vq.drew.alloc obCx) (((Chg.refl [] Vq).drew).alloc obCx))).mono ?_; rintro e V2 ⟨rfl, hc2, hry⟩; have hcv : Chg [] Vq V2 := (((Chg.refl [] Vq).drew).alloc obCx).then hc2; have HRY := Lib.hid hry; have hyb : Blk V2 Vq.heap.size 43 #[.int .u64 0, .int .u64 0, .slice none 0 0, .int .i64 0] := (Blk.new Vq.drew 43 _).chg hc2 (by simp); have z0 := hyb.cell 0; have z1 := hyb.cell 1; have z2 := hyb.cell 2; have z3 := hyb.cell 3; have zf := hyb.frozen; have lz := hyb.lt)
          refine hK _ _ ?_
          clear hK K
          refine wpAnyIn_take (i := 6) (v := .tuple #[.agg #[.int .u64 yb, .int .u64 yp, .slice ya ym yc, .int .i64 yn], .int .i64 E]) rfl rfl (by kernel_rfl) (by kernel_rfl) (by kernel_rfl) (fun _ _ _ h => h) ⟨Or.inl ⟨by rfl, by intro w; go_simp⟩, fun _ => rfl⟩ ?_
          refine wpAnyIn_take (i := 7) (v := .agg #[.int .u64 yb, .int .u64 yp, .slice ya ym yc, .int .i64 yn]) rfl rfl (by kernel_rfl) (by kernel_rfl) (by kernel_rfl) (fun _ _ _ h => h) ⟨Or.inl ⟨by rfl, by intro w; go_simp⟩, fun _ => rfl⟩ ?_
          refine wpAnyIn_take (i := 8) (v := .int .i64 E) rfl rfl (by kernel_rfl) (by kernel_rfl) (by kernel_rfl) (fun _ _ _ h => h) ⟨Or.inl ⟨by rfl, by intro w; go_simp⟩, fun _ => rfl⟩ ?_
          refine wpAnyIn_ready (rs := [10]) (by kernel_rfl) (by simp) ?_
          refine AllReadyIn.cons rfl (fun K hK => ?_) AllReadyIn.nil
          go_simp
          refine hK _ _ ?_
          clear hK K
          refine wpAnyIn_ready (rs := [11]) (by kernel_rfl) (by simp) ?_
          refine AllReadyIn.cons rfl (fun K hK => ?_) AllReadyIn.nil
          go_simp
          refine hK _ _ ?_
          clear hK K
          refine wpAnyIn_done (by kernel_rfl) ?_ _
          obtain ⟨WT, hWT⟩ : ∃ WT, WT = (((V2.setCell ⟨Vq.heap.size, 0, none⟩ (.int .u64 yb)).setCell ⟨Vq.heap.size, 1, none⟩ (.int .u64 yp)).setCell ⟨Vq.heap.size, 2, none⟩ (.slice ya ym yc)).setCell ⟨Vq.heap.size, 3, none⟩ (.int .i64 yn) := ⟨_, rfl⟩
          have hcT : Chg [] Vq WT := by rw [hWT]; exact (((hcv.setCell (p := ⟨Vq.heap.size, 0, none⟩) (.inr (Nat.le_refl _)) _).setCell (p := ⟨Vq.heap.size, 1, none⟩) (.inr (Nat.le_refl _)) _).setCell (p := ⟨Vq.heap.size, 2, none⟩) (.inr (Nat.le_refl _)) _).setCell (p := ⟨Vq.heap.size, 3, none⟩) (.inr (Nat.le_refl _)) _
          have yT : Blk WT Vq.heap.size 43 #[.int .u64 yb, .int .u64 yp, .slice ya ym yc, .int .i64 yn] := by
            have := (((hyb.set_ 0 (.int .u64 yb)).set_ 1 (.int .u64 yp)).set_ 2 (.slice ya ym yc)).set_ 3 (.int .i64 yn)
            rw [hWT]; simpa using this
          have HRYT : Hid (Rd WT (.slice ya ym yc) yl) := Lib.hid (HRY.out.chg (S := [Vq.heap.size]) (by rw [hWT]; exact ((((Chg.refl [Vq.heap.size] V2).setCell (p := ⟨Vq.heap.size, 0, none⟩) (.inl (by simp)) _).setCell (p := ⟨Vq.heap.size, 1, none⟩) (.inl (by simp)) _).setCell (p := ⟨Vq.heap.size, 2, none⟩) (.inl (by simp)) _).setCell (p := ⟨Vq.heap.size, 3, none⟩) (.inl (by simp)) _) (fun k hk hm => by
            simp at hm
            subst hm
            exact Rs.ty HRY.out hyb (by decide) hk))
          clear hyb z0 z1 z2 z3 zf lz
          have xT := HY.out.chg hcT (by simp)
          have bT := H4V.out.chg hcT (by simp)
          have tx0 := xT.cell 0
          have tx1 := xT.cell 1
          have tx2 := xT.cell 2
          have tx3 := xT.cell 3
          have ty0 := yT.cell 0
          have ty1 := yT.cell 1
          have ty2 := yT.cell 2
          have ty3 := yT.cell 3
          have tb0 := bT.cell 0
          have tbf := bT.frozen 0
          have tl1 := xT.lt
          have tl2 := yT.lt
          have tl3 := bT.lt
          simp only [List.getElem?_toArray, List.getElem?_cons_succ, List.getElem?_cons_zero] at tx0 tx1 tx2 tx3 ty0 ty1 ty2 ty3 tb0
          have HRXT := Lib.hid (HRX.out.quiet hcT)
          have HCT := Lib.hid hcT
          have HBT := Lib.hid bT
          rw [← hWT]
          clear hWT xT bT yT hcT hcv hc2 u3 uc u5 u6 p3 pc p5 p6 lc2' l3' lBx lBy
          cases hh : t2.has (iN : Nat) xq with
          | false =>
            obtain rfl : E = 11 := by rw [HEE.out]; unfold staleE; rw [hh]; rfl
            have HOF : Hid (okP t2 ⟨(iN : Nat), xq, xb, xp, xa, xm, xc, xn, xl⟩ = false) := Lib.hid (by rw [HOK.out, hh]; rfl)
            clear hh
            gi_wp2
            refine ⟨trivial, ?_⟩
            gi_wp2
            refine ⟨((KeepsOthers.of_chg HCT.out).trans (KeepsOthers.setCell _ _ _)).from _, rfl, ⟨_, HMM.out, HOF.out⟩, by simpa using HBT.out.set_ 0 (.bool false), ((HI.out.2.then HCT.out).any.setCell (p := ⟨w.heap.size + 1, 0, none⟩) (.inl (by simp)) _)⟩
          | true =>
            obtain rfl : E = 0 := by rw [HEE.out]; unfold staleE; rw [hh]; rfl
            have HEQ := Lib.hid (equal63_any (x := ⟨xb, xp, xa, xm, xc, xn, xl⟩) (y := ⟨yb, yp, ya, ym, yc, yn, yl⟩) HRXT.out HRYT.out HLN.out)
            obtain ⟨sb, hsb⟩ : ∃ sb, sb = sameB ⟨xb, xp, xa, xm, xc, xn, xl⟩ ⟨yb, yp, ya, ym, yc, yn, yl⟩ := ⟨_, rfl⟩
            rw [← hsb] at HEQ
            have HOF : Hid (okP t2 ⟨(iN : Nat), xq, xb, xp, xa, xm, xc, xn, xl⟩ = sb) := Lib.hid (by rw [HOK.out, hh, hsb]; rfl)
            clear hh hsb
            cases sb with
            | false =>
              gi_wp2_with (refine ⟨trivial, ?_⟩; gi_at_call 63; refine (callsIn_wide.2 HEQ.out).mono ?_; rintro e V5 ⟨rfl, hc5⟩; have HC5 := Lib.hid (HCT.out.then hc5); have b5 := HBT.out.chg hc5 (by simp); have HB5 := Lib.hid b5; have b50 := b5.cell 0; have b5f := b5.frozen 0; clear hc5 b5)
              refine ⟨((KeepsOthers.of_chg HC5.out).trans (KeepsOthers.setCell _ _ _)).from _, rfl, ⟨_, HMM.out, HOF.out⟩, by simpa using HB5.out.set_ 0 (.bool false), ((HI.out.2.then HC5.out).any.setCell (p := ⟨w.heap.size + 1, 0, none⟩) (.inl (by simp)) _)⟩
            | true =>
              gi_wp2_with (refine ⟨trivial, ?_⟩; gi_at_call 63; refine (callsIn_wide.2 HEQ.out).mono ?_; rintro e V5 ⟨rfl, hc5⟩; have HC5 := Lib.hid (HCT.out.then hc5); clear hc5)
              refine ⟨(KeepsOthers.of_chg HC5.out).from _, KeepP.quiet HC5.out (fun k hk => Nat.lt_of_lt_of_le hk lVq), fun p hp => ?_, HI.out.2.then HC5.out⟩
              rcases List.mem_append.1 hp with h | h
              · exact HI.out.1 p h
              · simp at h
                subst h
                exact HOF.out
      · go_simp
        refine hK _ _ ?_
        clear hK K
        refine wpAnyIn_ready (rs := [0]) (by kernel_rfl) (by simp) ?_
        refine AllReadyIn.cons rfl (fun K hK => ?_) AllReadyIn.nil
        go_simp
        refine hK _ _ ?_
        clear hK K
        refine wpAnyIn_take (i := 1) (v := .pointer (some ⟨c2, 0, none⟩)) rfl rfl (by kernel_rfl) (by kernel_rfl) (by kernel_rfl) (fun _ _ _ h => h) ⟨Or.inl ⟨by rfl, by intro w; go_simp⟩, fun _ => rfl⟩ ?_
        refine wpAnyIn_take (i := 2) (v := .pointer (some ⟨c2, 0, none⟩)) rfl rfl (by kernel_rfl) (by kernel_rfl) (by kernel_rfl) (fun _ _ _ h => h) ⟨Or.inl ⟨by rfl, by intro w; go_simp⟩, fun _ => rfl⟩ ?_
        refine wpAnyIn_ready (rs := [3]) (by kernel_rfl) (by simp) ?_
        refine AllReadyIn.cons rfl (fun K hK => ?_) AllReadyIn.nil
        go_simp
        refine hK _ _ ?_
        clear hK K
        refine wpAnyIn_ready (rs := [5]) (by kernel_rfl) (by simp) ?_
        refine AllReadyIn.cons rfl (fun K hK => ?_) AllReadyIn.nil
        go_simp
        (refine ⟨trivial, ?_⟩; refine (callsIn_wide.2 (HGE.out (Vq.drew.alloc obCx) (((Chg.refl [] Vq).drew).alloc obCx))).mono ?_; rintro e V2 ⟨rfl, hc2, hry⟩; have hcv : Chg [] Vq V2 := (((Chg.refl [] Vq).drew).alloc obCx).then hc2; have HRY := Lib.hid hry; have hyb : Blk V2 Vq.heap.size 43 #[.int .u64 0, .int .u64 0, .slice none 0 0, .int .i64 0] := (Blk.new Vq.drew 43 _).chg hc2 (by simp); have z0 := hyb.cell 0; have z1 := hyb.cell 1; have z2 := hyb.cell 2; have z3 := hyb.cell 3; have zf := hyb.frozen; have lz := hyb.lt)
        refine hK _ _ ?_
        clear hK K
        refine wpAnyIn_take (i := 6) (v := .tuple #[.agg #[.int .u64 yb, .int .u64 yp, .slice ya ym yc, .int .i64 yn], .int .i64 E]) rfl rfl (by kernel_rfl) (by kernel_rfl) (by kernel_rfl) (fun _ _ _ h => h) ⟨Or.inl ⟨by rfl, by intro w; go_simp⟩, fun _ => rfl⟩ ?_
        refine wpAnyIn_take (i := 7) (v := .agg #[.int .u64 yb, .int .u64 yp, .slice ya ym yc, .int .i64 yn]) rfl rfl (by kernel_rfl) (by kernel_rfl) (by kernel_rfl) (fun _ _ _ h => h) ⟨Or.inl ⟨by rfl, by intro w; go_simp⟩, fun _ => rfl⟩ ?_
        refine wpAnyIn_take (i := 8) (v := .int .i64 E) rfl rfl (by kernel_rfl) (by kernel_rfl) (by kernel_rfl) (fun _ _ _ h => h) ⟨Or.inl ⟨by rfl, by intro w; go_simp⟩, fun _ => rfl⟩ ?_
        refine wpAnyIn_ready (rs := [10]) (by kernel_rfl) (by simp) ?_
        refine AllReadyIn.cons rfl (fun K hK => ?_) AllReadyIn.nil
        go_simp
        refine hK _ _ ?_
        clear hK K
        refine wpAnyIn_ready (rs := [11]) (by kernel_rfl) (by simp) ?_
        refine AllReadyIn.cons rfl (fun K hK => ?_) AllReadyIn.nil
        go_simp
        refine hK _ _ ?_
        clear hK K
        refine wpAnyIn_done (by kernel_rfl) ?_ _
        obtain ⟨WT, hWT⟩ : ∃ WT, WT = (((V2.setCell ⟨Vq.heap.size, 0, none⟩ (.int .u64 yb)).setCell ⟨Vq.heap.size, 1, none⟩ (.int .u64 yp)).setCell ⟨Vq.heap.size, 2, none⟩ (.slice ya ym yc)).setCell ⟨Vq.heap.size, 3, none⟩ (.int .i64 yn) := ⟨_, rfl⟩
        have hcT : Chg [] Vq WT := by rw [hWT]; exact (((hcv.setCell (p := ⟨Vq.heap.size, 0, none⟩) (.inr (Nat.le_refl _)) _).setCell (p := ⟨Vq.heap.size, 1, none⟩) (.inr (Nat.le_refl _)) _).setCell (p := ⟨Vq.heap.size, 2, none⟩) (.inr (Nat.le_refl _)) _).setCell (p := ⟨Vq.heap.size, 3, none⟩) (.inr (Nat.le_refl _)) _
        have yT : Blk WT Vq.heap.size 43 #[.int .u64 yb, .int .u64 yp, .slice ya ym yc, .int .i64 yn] := by
          have := (((hyb.set_ 0 (.int .u64 yb)).set_ 1 (.int .u64 yp)).set_ 2 (.slice ya ym yc)).set_ 3 (.int .i64 yn)
          rw [hWT]; simpa using this
        have HRYT : Hid (Rd WT (.slice ya ym yc) yl) := Lib.hid (HRY.out.chg (S := [Vq.heap.size]) (by rw [hWT]; exact ((((Chg.refl [Vq.heap.size] V2).setCell (p := ⟨Vq.heap.size, 0, none⟩) (.inl (by simp)) _).setCell (p := ⟨Vq.heap.size, 1, none⟩) (.inl (by simp)) _).setCell (p := ⟨Vq.heap.size, 2, none⟩) (.inl (by simp)) _).setCell (p := ⟨Vq.heap.size, 3, none⟩) (.inl (by simp)) _) (fun k hk hm => by
          simp at hm
          subst hm
          exact Rs.ty HRY.out hyb (by decide) hk))
        clear hyb z0 z1 z2 z3 zf lz
        have xT := HY.out.chg hcT (by simp)
        have bT := H4V.out.chg hcT (by simp)
        have tx0 := xT.cell 0
        have tx1 := xT.cell 1
        have tx2 := xT.cell 2
        have tx3 := xT.cell 3
        have ty0 := yT.cell 0
        have ty1 := yT.cell 1
        have ty2 := yT.cell 2
        have ty3 := yT.cell 3
        have tb0 := bT.cell 0
        have tbf := bT.frozen 0
        have tl1 := xT.lt
        have tl2 := yT.lt
        have tl3 := bT.lt
        simp only [List.getElem?_toArray, List.getElem?_cons_succ, List.getElem?_cons_zero] at tx0 tx1 tx2 tx3 ty0 ty1 ty2 ty3 tb0
        have HRXT := Lib.hid (HRX.out.quiet hcT)
        have HCT := Lib.hid hcT
        have HBT := Lib.hid bT
        rw [← hWT]
        clear hWT xT bT yT hcT hcv hc2 u3 uc u5 u6 p3 pc p5 p6 lc2' l3' lBx lBy
        cases hh : t2.has (iN : Nat) xq with
        | false =>
          obtain rfl : E = 11 := by rw [HEE.out]; unfold staleE; rw [hh]; rfl
          have HOF : Hid (okP t2 ⟨(iN : Nat), xq, xb, xp, xa, xm, xc, xn, xl⟩ = false) := Lib.hid (by rw [HOK.out, hh]; rfl)
          clear hh
          gi_wp2
          refine ⟨trivial, ?_⟩
          gi_wp2
          refine ⟨((KeepsOthers.of_chg HCT.out).trans (KeepsOthers.setCell _ _ _)).from _, rfl, ⟨_, HMM.out, HOF.out⟩, by simpa using HBT.out.set_ 0 (.bool false), ((HI.out.2.then HCT.out).any.setCell (p := ⟨w.heap.size + 1, 0, none⟩) (.inl (by simp)) _)⟩
        | true =>
          obtain rfl : E = 0 := by rw [HEE.out]; unfold staleE; rw [hh]; rfl
          have HEQ := Lib.hid (equal63_any (x := ⟨xb, xp, xa, xm, xc, xn, xl⟩) (y := ⟨yb, yp, ya, ym, yc, yn, yl⟩) HRXT.out HRYT.out HLN.out)
          obtain ⟨sb, hsb⟩ : ∃ sb, sb = sameB ⟨xb, xp, xa, xm, xc, xn, xl⟩ ⟨yb, yp, ya, ym, yc, yn, yl⟩ := ⟨_, rfl⟩
          rw [← hsb] at HEQ
          have HOF : Hid (okP t2 ⟨(iN : Nat), xq, xb, xp, xa, xm, xc, xn, xl⟩ = sb) := Lib.hid (by rw [HOK.out, hh, hsb]; rfl)
          clear hh hsb
          cases sb with
          | false =>
            gi_wp2_with (refine ⟨trivial, ?_⟩; gi_at_call 63; refine (callsIn_wide.2 HEQ.out).mono ?_; rintro e V5 ⟨rfl, hc5⟩; have HC5 := Lib.hid (HCT.out.then hc5); have b5 := HBT.out.chg hc5 (by simp); have HB5 := Lib.hid b5; have b50 := b5.cell 0; have b5f := b5.frozen 0; clear hc5 b5)
            refine ⟨((KeepsOthers.of_chg HC5.out).trans (KeepsOthers.setCell _ _ _)).from _, rfl, ⟨_, HMM.out, HOF.out⟩, by simpa using HB5.out.set_ 0 (.bool false), ((HI.out.2.then HC5.out).any.setCell (p := ⟨w.heap.size + 1, 0, none⟩) (.inl (by simp)) _)⟩
          | true =>
            gi_wp2_with (refine ⟨trivial, ?_⟩; gi_at_call 63; refine (callsIn_wide.2 HEQ.out).mono ?_; rintro e V5 ⟨rfl, hc5⟩; have HC5 := Lib.hid (HCT.out.then hc5); clear hc5)
            refine ⟨(KeepsOthers.of_chg HC5.out).from _, KeepP.quiet HC5.out (fun k hk => Nat.lt_of_lt_of_le hk lVq), fun p hp => ?_, HI.out.2.then HC5.out⟩
            rcases List.mem_append.1 hp with h | h
            · exact HI.out.1 p h
            · simp at h
              subst h
              exact HOF.out
  case done =>
    rintro D' zs Vq hD rfl ⟨hI1, hI2⟩ hKD
    have q4 := HX4.out.chg hI2 (by simp)
    have q40 := q4.cell 0
    have q4f := q4.frozen 0
    have hall : (nowL t N).all (okP t2) = true := by
      rw [List.all_eq_true]
      intro p hp
      exact hI1 ⟨p, hp⟩ (List.mem_attach _ _)
    have hcV : Chg [] w Vq := HC4.out.then hI2
    have HV := Lib.hid (And.intro q4 hcV)
    have HA := Lib.hid hall
    clear hI1 hall hI2 q4 hcV
    gi_wp2
    have hKD2 : (Vq.setCell ⟨w.heap.size + 1, 0, none⟩ (.bool true)).heap[D']? = some (.deferred (some [])) := (KeepsOthers.setCell Vq ⟨w.heap.size + 1, 0, none⟩ (.bool true)).same D' _ hKD rfl
    refine ⟨by simp, .inl ⟨_, _, rfl, run_takeDeferred hKD2, ?_⟩⟩
    have hbT := HV.out.1.set_ 0 (.bool true)
    simp only [List.setIfInBounds_toArray, List.set_cons_zero] at hbT
    have hbU := blk_keep hbT (grownBy_putObj' _ D' (.deferred none)) (fun r e => by cases e; exact ⟨_, hKD2, rfl⟩)
    have h0 := hbU.cell 0
    simp only [List.getElem?_toArray, List.getElem?_cons_zero] at h0
    refine ⟨.bool true, by simp [results, Tryz.f22, go_sem, h0, Result.andThen], by rw [HSM.out, HA.out], ((HV.out.2.setCell (p := ⟨w.heap.size + 1, 0, none⟩) (.inr (by simp)) _).grown0 (grownBy_putObj' _ D' _) (fun k e => by cases e; omega))⟩
  case stop =>
    rintro D' c' pre Vq hD hpre ⟨rfl, ⟨p, hp, hno⟩, hbk, hcV⟩ hKD
    have hall : (nowL t N).all (okP t2) = false := by
      rw [List.all_eq_false]
      exact ⟨p, hp, by simpa using hno⟩
    have HA := Lib.hid hall
    have HV := Lib.hid (And.intro hbk hcV)
    clear hall hbk hcV hno hp hpre
    gi_wp2
    refine ⟨by simp, .inl ⟨_, _, rfl, run_takeDeferred hKD, ?_⟩⟩
    have hbU := blk_keep HV.out.1 (grownBy_putObj' _ D' (.deferred none)) (fun r e => by cases e; exact ⟨_, hKD, rfl⟩)
    have h0 := hbU.cell 0
    simp only [List.getElem?_toArray, List.getElem?_cons_zero] at h0
    refine ⟨.bool false, by simp [results, Tryz.f22, go_sem, h0, Result.andThen], by rw [HSM.out, HA.out], ((HC4.out.trans HV.out.2 (fun k hk => .inr (by simp at hk; omega))).grown0 (grownBy_putObj' _ D' _) (fun k e => by cases e; omega))⟩
end Go.Proofs
end
