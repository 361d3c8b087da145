/-
  Behind each act each context's refills are its budget together, of which there are not too many, and all budgets together stay but where one is made or dropped: ContextSums returns true for every size, most and acts, and leaves its arguments as they were. No condition.
-/
import Derived.Test.YtocdkomjdcccoaaGreatNa2
import Derived.Test.YtocdkomjdcccoaaGreatRows
import Derived.WalkKit
import Derived.Below
import Derived.ChangeSame
import Derived.Test.YtocdkomjdcccoaaGreatM18
import Derived.ProofKit
import Derived.OpenShut
section
namespace Go.Proofs
open Go.RowKit Go.Shelf
set_option linter.unusedVariables false
set_option linter.unusedSimpArgs false
attribute [local go_sem] Oper.semAt_some

theorem blk_keep {A B : World} {b : Nat} {t : TypeId} {cs : Array Value} {row : Option Nat} (h : Blk A b t cs) (hg : A.grownBy B row) (hr : ∀ r, row = some r → ∃ o : Obj, A.heap[r]? = some o ∧ o.isCells = false) : Blk B b t cs :=
  h.same (hg.block b h.lt (fun e => by
    obtain ⟨o, ho, hc⟩ := hr b e.symm
    unfold Blk at h
    rw [h] at ho; cases ho; cases hc))
theorem row_keep {A B : World} {e : TypeId} {size n : Nat} {v : Value} {xs : List Value} {row : Option Nat} (h : Row A e size v n xs) (hg : A.grownBy B row) (hr : ∀ r, row = some r → ∃ o : Obj, A.heap[r]? = some o ∧ o.isCells = false) : Row B e size v n xs := by
  refine ⟨h.1, ?_⟩
  rcases h.2 with h0 | ⟨g, cap, cur, rfl, hb, r⟩
  · exact .inl h0
  · exact .inr ⟨g, cap, cur, rfl, blk_keep hb hg hr, r⟩
theorem FreshN.keep {D : Nat} {xs : List Nam} {x : Nam} {A B : World} {row : Option Nat} (h : FreshN D xs x A) (hg : A.grownBy B row) (hr : ∀ r, row = some r → ∃ o : Obj, A.heap[r]? = some o ∧ o.isCells = false) : FreshN D xs x B := ⟨row_keep h.1 hg hr, h.2⟩
theorem Chg.grown0 {S : List Nat} {w A B : World} {row : Option Nat} (h : Chg S w A) (hg : A.grownBy B row) (hr : ∀ k, row = some k → w.heap.size ≤ k) : Chg S w B := h.grown hg (fun k hk => .inr (hr k hk))
/-- What holds in the midst of the rounds over all contexts. -/
def SumI (b : Nat) (w4 : World) (pre : List Nam) (V : World) : Prop := Blk V b 32 #[.int .u64 (allB pre)] ∧ (∀ p ∈ pre, 1 ≤ p.x.b ∧ p.x.b ≤ 4294967296) ∧ Chg [b] w4 V
theorem SumI.own {b C : Nat} {w4 : World} (hC : w4.heap.size ≤ C) : OwnFrom C (SumI b w4) := by
  rintro pre A B row ⟨h1, h2, h3⟩ hg hr
  exact ⟨blk_keep h1 hg (fun r e => (hr r e).2), h2, h3.grown0 hg (fun k e => Nat.le_trans hC (hr k e).1)⟩
theorem Chg.then_below {n : Nat} {S : List Nat} {w A B : World} (k : Chg S w A) (h : Below n A B) (hn : w.heap.size ≤ n) : Chg S w B := ⟨h.os.trans k.os, h.tape.trans k.tape, h.output.trans k.output, Nat.le_trans k.size h.size, fun j hj hm => (h.block j (by omega)).trans (k.block j hj hm)⟩
/-- All, of a pair. -/
theorem All_pair {W1 W2 : World} {c h : Nat} {S SR : List Nat} {t : Tab Cx} {r : RTab} {most M : Int} (P : Pair W1 c S h SR t r most M) (hc : Chg [] W1 W2) :
    Calls Tryz.prog 14 #[ptr c] W2 fun e w' => ∃ BB, e = .returned (.func (.func 45) #[] #[ptr BB]) ∧ Below W2.heap.size W2 w' ∧ ∃ N : Nat, (t.size = (N : Nat) ∧ N ≤ 32) ∧
      ∀ X : Nat → Prop, (∀ k, W2.heap.size ≤ k → k < w'.heap.size → X k) → (∀ k, k < W1.heap.size → X k) → (∀ k, X k → k < w'.heap.size) → Over X w' BB (nowL t N) := by
  obtain ⟨N, hN⟩ : ∃ N : Nat, t.size = (N : Nat) := ⟨t.size.toNat, by have := P.ct.wf.s0; omega⟩
  have hs := P.inv.size
  refine (All_any (P.ct.quiet hc) hN (fun k s hk ht => ?_)).mono ?_
  · have := (P.inv.xs k s hk ht).len
    have := P.inv.m1
    omega
  · rintro e w' ⟨BB, h1, h2, h3⟩
    exact ⟨BB, h1, h2, N, ⟨hN, by omega⟩, fun X a b d => h3 X a (fun k s hk ht j hj => b j ((P.ct.good k s hk).lt j hj)) d⟩
/-- What is known of one that comes. -/
theorem fresh_ok {W1 : World} {c h N : Nat} {S SR : List Nat} {t : Tab Cx} {r : RTab} {most M : Int} (P : Pair W1 c S h SR t r most M) (hN : t.size = (N : Nat)) (x : Nam) (hx : ∃ p ∈ nowL t N, x.strip = p.strip) :
    1 ≤ x.x.b ∧ x.x.b ≤ 4294967296 ∧ Ok x.x.l ∧ mayP x.x.l = true ∧ sumP x.x.l = x.x.b ∧ (x.x.l.length : Int) ≤ most := by
  obtain ⟨p, hp, he⟩ := hx
  obtain ⟨i, s, hi, hs, rfl⟩ := mem_nowL.1 hp
  obtain ⟨q1, q2⟩ := live_nat.1 hs
  have hx := P.inv.xs i s q1 q2
  obtain ⟨xi, xq, xb, xp, xa, xm, xc, xn, xl⟩ := x
  simp only [Nam.strip, Nam.mk.injEq, Cx.mk.injEq] at he
  obtain ⟨_, _, rfl, rfl, _, _, _, rfl, rfl⟩ := he
  exact ⟨hx.b0, hx.b1, hx.ok, hx.may, hx.sum, hx.len⟩
theorem ex_frameT {x0 x1 x2 x3 x4 x5 x6 x7 x8 x9 x10 x11 x12 x13 x14 x15 x16 x17 x18 x19 x20 x21 x22 x23 x24 x25 x26 x27 x28 x29 x30 x31 x32 x33 x34 x35 x36 x37 x38 x39 x40 x41 x42 x43 x44 x45 x46 x47 x48 x49 x50 x51 x52 x53 x54 x55 x56 x57 x58 x59 x60 x61 x62 x63 x64 x65 x66 x67 x68 x69 x70 x71 x72 x73 x74 x75 x76 x77 x78 x79 x80 x81 x82 x83 x84 x85 x86 x87 x88 x89 x90 x91 x92 x93 x94 x95 x96 x97 x98 x99 x100 x101 x102 x103 x104 x105 x106 x107 x108 x109 x110 x111 x112 x113 x114 x115 x116 x117 x118 x119 x120 x121 : Value} {ds : List Deferred} {p q : Prop} (hp : p) (hq : q) :
    ∃ u : Nat → Value, p ∧ ({ tmps := #[x0, x1, x2, x3, x4, x5, x6, x7, x8, x9, x10, x11, x12, x13, x14, x15, x16, x17, x18, x19, x20, x21, x22, x23, x24, x25, x26, x27, x28, x29, x30, x31, x32, x33, x34, x35, x36, x37, x38, x39, x40, x41, x42, x43, x44, x45, x46, x47, x48, x49, x50, x51, x52, x53, x54, x55, x56, x57, x58, x59, x60, x61, x62, x63, x64, x65, x66, x67, x68, x69, x70, x71, x72, x73, x74, x75, x76, x77, x78, x79, x80, x81, x82, x83, x84, x85, x86, x87, x88, x89, x90, x91, x92, x93, x94, x95, x96, x97, x98, x99, x100, x101, x102, x103, x104, x105, x106, x107, x108, x109, x110, x111, x112, x113, x114, x115, x116, x117, x118, x119, x120, x121], defers := ds } : Act) = { tmps := #[x0, x1, x2, u 3, x4, u 5, x6, x7, u 8, x9, x10, x11, x12, u 13, x14, u 15, u 16, u 17, u 18, u 19, u 20, u 21, u 22, u 23, u 24, u 25, u 26, u 27, u 28, u 29, u 30, u 31, u 32, u 33, u 34, u 35, u 36, u 37, u 38, u 39, u 40, u 41, u 42, u 43, u 44, u 45, u 46, u 47, u 48, u 49, u 50, u 51, u 52, u 53, u 54, u 55, u 56, u 57, u 58, u 59, u 60, u 61, u 62, u 63, u 64, u 65, u 66, u 67, u 68, u 69, u 70, u 71, u 72, u 73, u 74, u 75, u 76, u 77, u 78, u 79, u 80, u 81, u 82, u 83, u 84, u 85, u 86, u 87, u 88, u 89, u 90, u 91, u 92, u 93, u 94, u 95, u 96, u 97, u 98, u 99, u 100, u 101, u 102, u 103, u 104, u 105, u 106, u 107, u 108, u 109, u 110, u 111, u 112, u 113, u 114, u 115, u 116, u 117, u 118, u 119, u 120, u 121], defers := ds } ∧ q :=
  ⟨fun i => #[x0, x1, x2, x3, x4, x5, x6, x7, x8, x9, x10, x11, x12, x13, x14, x15, x16, x17, x18, x19, x20, x21, x22, x23, x24, x25, x26, x27, x28, x29, x30, x31, x32, x33, x34, x35, x36, x37, x38, x39, x40, x41, x42, x43, x44, x45, x46, x47, x48, x49, x50, x51, x52, x53, x54, x55, x56, x57, x58, x59, x60, x61, x62, x63, x64, x65, x66, x67, x68, x69, x70, x71, x72, x73, x74, x75, x76, x77, x78, x79, x80, x81, x82, x83, x84, x85, x86, x87, x88, x89, x90, x91, x92, x93, x94, x95, x96, x97, x98, x99, x100, x101, x102, x103, x104, x105, x106, x107, x108, x109, x110, x111, x112, x113, x114, x115, x116, x117, x118, x119, x120, x121].getD i undef, hp, rfl, hq⟩
set_option maxRecDepth 100000 in
set_option maxHeartbeats 12800000 in
theorem sums_any (size most : Int) (V : Value) (l : List ActC) (w : World) (hV : Acts w V l) :
    Calls Tryz.prog 4 #[.int .i64 size, .int .i64 most, V] w fun e w' => e = .returned (.bool true) ∧ Chg [] w w' := by
  obtain ⟨A, c9, rfl⟩ := hV.open_
  obtain ⟨m, hm⟩ : ∃ m, m = l.length := ⟨_, rfl⟩
  rw [← hm] at hV ⊢
  have HV := Lib.hid hV
  clear hV hm
  have hcb : Chg [] w ((w.alloc (.cells #[.int .i64 most] 3)).alloc (.cells #[.bool false] 4)) := ((Chg.refl [] w).alloc _).alloc _
  have B4 : Blk ((w.alloc (.cells #[.int .i64 most] 3)).alloc (.cells #[.bool false] 4)) w.heap.size 3 #[.int .i64 most] := (Blk.new w 3 _).alloc _
  have B6 : Blk ((w.alloc (.cells #[.int .i64 most] 3)).alloc (.cells #[.bool false] 4)) (w.heap.size + 1) 4 #[.bool false] := Blk.at (w.alloc _) 4 _ (by simp)
  have HB4 := Lib.hid B4
  have HB6 := Lib.hid B6
  have HCB := Lib.hid hcb
  clear B4 B6 hcb
  refine (callsIn_wide (n := 12)).1 ?_
  refine callsIn_of_wp_marks Tryz.func4 rfl trivial ?_ rfl
  simp only [Tryz.ntmps4, List.size_toArray, List.length_cons, List.length_nil, Nat.reduceAdd, Nat.reduceSub, Array.replicate_succ, Array.replicate_zero, List.push_toArray, List.append_toArray, List.nil_append, List.cons_append]
  have HEND : Hid (∀ W1 tmps, Chg [] ((w.alloc (.cells #[.int .i64 most] 3)).alloc (.cells #[.bool false] 4)) W1 → tmps[6]? = some (Value.pointer (some ⟨w.heap.size + 1, 0, none⟩)) → LeavesIn Fence.wide 12 Tryz.prog Tryz.f4 tmps (fun e w' => e = .returned (.bool true) ∧ Chg [] w w') [] .returning (W1.setCell ⟨w.heap.size + 1, 0, none⟩ (.bool true))) := Lib.hid (fun W1 tmps hc ht => by
    have h := (HB6.out.chg hc (by simp)).set_ 0 (.bool true)
    have h0 := h.cell 0
    simp at h0
    refine ⟨.bool true, ?_, rfl, (HCB.out.then hc).setCell (p := ⟨w.heap.size + 1, 0, none⟩) (.inr (by simp)) _⟩
    simp [results, Tryz.f4, go_sem, h0, Result.andThen, ht])
  by_cases hbig : 120 < (m : Int)
  · have d1 : decide ((m : Int) > 120) = true := by simpa using hbig
    gi_wp2
    refine ⟨trivial, ?_⟩
    gi_wp2_with (refine ⟨trivial, ?_⟩; gi_at_call 8; refine (callsIn_wide.2 (known_any _)).mono ?_; rintro e w1 ⟨rfl, hc⟩; have q6 := HB6.out.chg hc (by simp); have q0 := q6.cell 0; have qf := q6.frozen 0)
    exact HEND.out _ _ hc (by simp)
  have d1 : decide ((m : Int) > 120) = false := by simpa using hbig
  cases hmay : mayC size most with
  | false =>
    have HM := Lib.hid hmay
    clear hmay
    gi_wp2_with (first
      | (refine ⟨trivial, ?_⟩; gi_at_call 10; refine (callsIn_wide.2 (May_any _ _ _)).mono ?_; rintro e w1 ⟨rfl, rfl⟩; rw [HM.out])
      | (refine ⟨trivial, ?_⟩; gi_at_call 8; refine (callsIn_wide.2 (known_any _)).mono ?_; rintro e w1 ⟨rfl, hc⟩; have q6 := HB6.out.chg hc (by simp); have q0 := q6.cell 0; have qf := q6.frozen 0))
    exact HEND.out _ _ hc (by simp)
  | true =>
    have HM := Lib.hid hmay
    clear hmay
    gi_wp2_with (first
      | (refine ⟨trivial, ?_⟩; gi_at_call 10; refine (callsIn_wide.2 (May_any _ _ _)).mono ?_; rintro e w1 ⟨rfl, rfl⟩; rw [HM.out])
      | (refine ⟨trivial, ?_⟩; gi_at_call 9; refine (callsIn_wide.2 (New_yes _ HM.out)).mono ?_; rintro e w1 ⟨c, g, rfl, hT, lc, lg, hc⟩; have HT := Lib.hid (Btw.new HM.out hT lg hc); have q4 := HB4.out.chg hc (by simp); have q40 := q4.cell 0; clear hT hc q4)
      | (refine ⟨trivial, ?_⟩; gi_at_call 11; refine (callsIn_wide.2 HT.out).mono ?_; rintro e w3 ⟨h, rfl, _, S, SR, t, r, hP, hz, k1, k2, hcw⟩; have HB := Lib.hid (show BtwT _ c h most 0 0 w3 from ⟨S, SR, t, r, hP, hz, k1, k2, hcw⟩); clear hP hz k1 k2 hcw))
    obtain ⟨Wb, hWb⟩ : ∃ Wb, (w.alloc (.cells #[.int .i64 most] 3)).alloc (.cells #[.bool false] 4) = Wb := ⟨_, rfl⟩
    rw [hWb] at HB HB4 HB6 HCB HEND
    clear hWb HT
    refine wpIn_loop_ghost_k (fun j a' W => ∃ (k : Nat) (T : Int) (Ds : List Nat) (u : Nat → Value), (j = m - k ∧ k ≤ m) ∧ a' = { tmps := #[.int .i64 size, .int .i64 most, .slice A m c9, u 3, .pointer (some ⟨w.heap.size, 0, none⟩), u 5, .pointer (some ⟨w.heap.size + 1, 0, none⟩), .pointer (some ⟨c, 0, none⟩), u 8, .pointer (some ⟨h, 0, none⟩), .int .u64 T, .int .i64 (k : Nat), u 12, u 13, u 14, u 15, u 16, u 17, u 18, u 19, u 20, u 21, u 22, u 23, u 24, u 25, u 26, u 27, u 28, u 29, u 30, u 31, u 32, u 33, u 34, u 35, u 36, u 37, u 38, u 39, u 40, u 41, u 42, u 43, u 44, u 45, u 46, u 47, u 48, u 49, u 50, u 51, u 52, u 53, u 54, u 55, u 56, u 57, u 58, u 59, u 60, u 61, u 62, u 63, u 64, u 65, u 66, u 67, u 68, u 69, u 70, u 71, u 72, u 73, u 74, u 75, u 76, u 77, u 78, u 79, u 80, u 81, u 82, u 83, u 84, u 85, u 86, u 87, u 88, u 89, u 90, u 91, u 92, u 93, u 94, u 95, u 96, u 97, u 98, u 99, u 100, u 101, u 102, u 103, u 104, u 105, u 106, u 107, u 108, u 109, u 110, u 111, u 112, u 113, u 114, u 115, u 116, u 117, u 118, u 119, u 120, u 121], defers := marks Ds } ∧ BtwT Wb c h most k T W ∧ Marks Wb.heap.size W Ds) m ?start ?round
    case start =>
      exact ⟨0, 0, [], ex_frameS ⟨by omega, by omega⟩ ⟨HB.out, List.nodup_nil, fun D hD => by cases hD⟩⟩
    case round =>
      rintro j a' W ⟨k, T, Ds, u, ⟨rfl, hk⟩, rfl, hB, hM⟩ J K hJ hK
      have hc := hB.chg0
      have q4 := HB4.out.chg hc (by simp)
      have q6 := HB6.out.chg hc (by simp)
      have a4 := q4.cell 0
      have a6 := q6.cell 0
      have f6 := q6.frozen 0
      simp only [List.getElem?_toArray, List.getElem?_cons_zero] at a4 a6
      by_cases hlt : k < m
      · obtain ⟨b, off, kind, ri, rq, ti, tq, a2, b2, Tm, rfl, hat, hfit, hcs⟩ := HV.out.is_ hlt
        obtain ⟨e0, e1, e2, e3, e4, e5, e6, e7⟩ := hcs _ (HCB.out.then hc)
        have HIS := Lib.hid hcs
        have i0 : (0 : Int) ≤ (k : Int) := by omega
        have i1 : (k : Int) < (m : Int) := by omega
        have HD := hB.does hM (by omega) _ hfit
        simp only [ActC.cells] at HD
        clear hB hM hfit hat hcs
        gi_wp2_with (first
          | (refine ⟨trivial, ?_⟩; gi_at_call 12; refine (callsIn_wide.2 HD).mono ?_; rintro e W1 ⟨rfl, hM1, T1, hB1, hT1⟩; have HM1 := Lib.hid hM1; have HB1 := Lib.hid hB1; have HT1 := Lib.hid hT1; obtain ⟨S, SR, t, r, hP, htot, hS, hSR, hcP⟩ := hB1; have HP1 := Lib.hid hP; have HTO := Lib.hid htot; have HCP := Lib.hid hcP; have HAL := Lib.hid (All_pair hP ((Chg.refl [] W1).alloc (.cells #[.int .u64 0] 32))); have q4 := HB4.out.chg hcP (by simp); have q40 := q4.cell 0; clear hM1 hT1 hP htot hS hSR hcP q4)
          | (refine ⟨trivial, ?_⟩; gi_at_call 14; refine (callsIn_wide.2 HAL.out).mono ?_; rintro e w4 ⟨BB, rfl, hb4, N, hN, hO⟩; have HO := Lib.hid hO; have HB4' := Lib.hid hb4; have HN := Lib.hid hN; clear hO hb4 hN))
        have hP1 := HP1.out
        have hb4 := HB4'.out
        obtain ⟨hN, hN32⟩ := HN.out
        have z1 : W1.heap.size + 1 ≤ w4.heap.size := by have := hb4.size; simpa using this
        have hc14 : Chg [] W1 w4 := ((Chg.refl [] W1).alloc (.cells #[.int .u64 0] 32)).then (Chg.of_below hb4)
        have hsb : Blk w4 W1.heap.size 32 #[.int .u64 0] := (Blk.new W1 32 _).same (hb4.block _ (by simp))
        have hfx := fresh_ok hP1 (N := N) hN
        have hlx : (nowL t N).length ≤ 32 := by have := nowL_len t N; omega
        have hxs := allB_tot hN
        have hov := HO.out (fun k => k < w4.heap.size ∧ k ≠ W1.heap.size) (fun k h1 h2 => ⟨h2, by simp at h1; omega⟩) (fun k hk => ⟨by omega, by omega⟩) (fun k hk => hk.1)
        have HFX := Lib.hid hfx
        have HXS := Lib.hid hxs
        have HC14 := Lib.hid hc14
        have HLX := Lib.hid hlx
        have HZ := Lib.hid z1
        clear hP1 hfx hxs hlx
        refine wpIn_rangeFunc_told rfl (by omega) (gf := 45) (lb := #[.pointer (some ⟨BB, 0, none⟩)]) rfl trivial (enters_of Tryz.func45 (by kernel_rfl) rfl)
          (over_tells (12 - 1) (by omega) hov (D := w4.heap.size) (fun k hk => hk.1) (Nat.le_refl _)) (fun h k => h.trans k)
          (fun Wq o o' hk ho => Kp85.turn Wq hk ho (fun h => by have := h.1; omega))
          (Below.refl _ _) (fun _ => rfl)
          (SumI W1.heap.size w4) (fun _ _ _ => False) (SumI.own (Nat.le_refl _)) (fun _ _ _ _ _ hs _ _ => hs)
          ⟨hsb, fun p hp => (by cases hp), (Chg.refl _ _)⟩
          (fun x a' Vq => FreshN w4.heap.size (nowL t N) x Vq ∧ ∃ (Bx : Nat) (v : Nat → Value), (w4.heap.size ≤ Bx ∧ Blk Vq Bx 43 #[.int .u64 x.x.b, .int .u64 x.x.p, .slice x.x.a x.x.m x.x.c, .int .i64 x.x.n]) ∧ a' = { tmps := #[.int .i64 size, .int .i64 most, .slice (some ⟨b, off, none⟩) m c9, v 3, .pointer (some ⟨w.heap.size, 0, none⟩), v 5, .pointer (some ⟨w.heap.size + 1, 0, none⟩), .pointer (some ⟨c, 0, none⟩), v 8, .pointer (some ⟨h, 0, none⟩), .int .u64 T, .int .i64 (k : Nat), .pointer (some ⟨W1.heap.size, 0, none⟩), v 13, .pointer (some ⟨Bx, 0, none⟩), v 15, v 16, v 17, v 18, v 19, v 20, v 21, v 22, v 23, v 24, v 25, v 26, v 27, v 28, v 29, v 30, v 31, v 32, v 33, v 34, v 35, v 36, v 37, v 38, v 39, v 40, v 41, v 42, v 43, v 44, v 45, v 46, v 47, v 48, v 49, v 50, v 51, v 52, v 53, v 54, v 55, v 56, v 57, v 58, v 59, v 60, v 61, v 62, v 63, v 64, v 65, v 66, v 67, v 68, v 69, v 70, v 71, v 72, v 73, v 74, v 75, v 76, v 77, v 78, v 79, v 80, v 81, v 82, v 83, v 84, v 85, v 86, v 87, v 88, v 89, v 90, v 91, v 92, v 93, v 94, v 95, v 96, v 97, v 98, v 99, v 100, v 101, v 102, v 103, v 104, v 105, v 106, v 107, v 108, v 109, v 110, v 111, v 112, v 113, v 114, v 115, v 116, v 117, v 118, v 119, v 120, v 121], defers := [] } ∧ True)
          (fun x a' _ Xq Yq row hs hg hr => by
            obtain ⟨h1, Bx, v, ⟨h2, h3⟩, h4⟩ := hs
            exact ⟨h1.keep hg (fun r e => (hr r e).2), Bx, v, ⟨h2, blk_keep h3 hg (fun r e => (hr r e).2)⟩, h4⟩)
          ?assign ?body ?done ?stop
        case assign =>
          rintro l' pre x Vq K2 hI hT hK2
          have hz4 := hI.2.2.size
          simp only [Nam.encs]
          gi_wp2
          have hg : Vq.grownBy (Vq.alloc (.cells #[.int .u64 x.x.b, .int .u64 x.x.p, .slice x.x.a x.x.m x.x.c, .int .i64 x.x.n] 43)) none := grown_of_chg ((Chg.refl [] Vq).alloc _)
          exact hK2 _ _ ((KeepsOthers.alloc _ _).from _) (Kp85.quiet ((Chg.refl [] Vq).alloc _) (fun k hk => by have := hk.1; omega)) (SumI.own (Nat.le_refl _) _ _ _ none hI hg (fun r e => by cases e)) ⟨hT.keep hg (fun r e => by cases e), Vq.heap.size, ex_frameT ⟨hz4, Blk.new Vq 43 _⟩ trivial⟩
        case body =>
          rintro l' pre x a' Vq hI ⟨hF, Bx, v, ⟨hBx, hBk⟩, rfl, _⟩ hlt
          obtain ⟨xi, xq, xb, xp, xa, xm, xc, xn, xl⟩ := x
          obtain ⟨hro, hft, hln, hmem⟩ := hF
          obtain ⟨p0, p1, p2, p3, p4, p5⟩ := HFX.out _ hmem
          obtain ⟨I1, I2, I3⟩ := hI
          have hbd := allB_bd pre I2
          have hpl : pre.length < 32 := by have := HLX.out; omega
          have hq4 := (HB4.out.chg (HCP.out.then (HC14.out)) (by simp)).chg I3 (by simp; have := HB4.out.lt; have := HCP.out.size; omega)
          simp only at hro hft hln hBk p0 p1 p2 p3 p4 p5
          have hrd : Rd Vq (.slice xa xm xc) xl := hro.rd
          have HSU := Lib.hid (rsum_any hrd.inn p2 hln)
          obtain ⟨s1, s2⟩ := sum_all (l := xl) (by omega)
          rw [s1, s2, p4] at HSU
          have HMY := Lib.hid (rmay_any hrd.inn p2 hln)
          rw [p3] at HMY
          obtain ⟨nl, hnl⟩ : ∃ nl, nl = xl.length := ⟨_, rfl⟩
          have hxm : xm = nl := by obtain ⟨A', c', hv, _⟩ := hrd; simp only [Value.slice.injEq] at hv; omega
          subst hxm
          rw [← hnl] at p5
          have x0 := hBk.cell 0
          have x1 := hBk.cell 1
          have x2 := hBk.cell 2
          have x3 := hBk.cell 3
          have lx := hBk.lt
          have m0 := hq4.cell 0
          have lm := hq4.lt
          have b0 := I1.cell 0
          have bf := I1.frozen 0
          have lb := I1.lt
          simp only [List.getElem?_toArray, List.getElem?_cons_succ, List.getElem?_cons_zero] at x0 x1 x2 x3 m0 b0
          have g1 : (xb != xb) = false := by simp
          have g2 : decide ((xm : Int) > most) = false := by simpa using p5
          have g2' : decide (most < (xm : Int)) = false := by simpa using p5
          have g3 : decide (xb < 1) = false := by simpa using p0
          have g4 : decide (xb > 4294967296) = false := by simpa using p1
          have g4' : decide (4294967296 < xb) = false := by simpa using p1
          have wr : IntKind.u64.wrap (allB pre + xb) = allB pre + xb := by rw [IntKind.wrap_u64]; omega
          obtain ⟨sB, hsB⟩ : ∃ sB, sB = allB pre := ⟨_, rfl⟩
          rw [← hsB] at b0 wr
          have HI1 := Lib.hid I1
          have HI2 := Lib.hid I2
          have HI3 := Lib.hid I3
          have HQ4 := Lib.hid hq4
          have HBK := Lib.hid hBk
          have HSB := Lib.hid hsB
          have HP01 := Lib.hid (And.intro p0 p1)
          have HBX := Lib.hid hBx
          clear I1 I2 I3 hq4 hBk hsB hbd hpl hro hft hln hmem hrd p0 p1 p2 p3 p4 p5 s1 s2 hnl hBx
          gi_wp2_with (first
            | (refine ⟨trivial, ?_⟩; gi_at_call 15; refine (callsIn_wide.2 HSU.out).mono ?_; rintro e V1 ⟨rfl, rfl⟩)
            | (refine ⟨trivial, ?_⟩; gi_at_call 16; refine (callsIn_wide.2 HMY.out).mono ?_; rintro e V2 ⟨rfl, hc2⟩; have HC2 := Lib.hid hc2; have hx2 := HBK.out.chg hc2 (by simp); have y0 := hx2.cell 0; have y2 := hx2.cell 2; have ly := hx2.lt; have hs2 := HI1.out.chg hc2 (by simp); have bb0 := hs2.cell 0; have bbf := hs2.frozen 0; have hm2 := HQ4.out.chg hc2 (by simp); have mm0 := hm2.cell 0; rw [← HSB.out] at bb0; simp only [List.getElem?_toArray, List.getElem?_cons_succ, List.getElem?_cons_zero] at y0 y2 bb0 mm0; clear hc2 hx2 hs2 hm2))
          have hcV : Chg [W1.heap.size] Vq (V2.setCell ⟨W1.heap.size, 0, none⟩ (.int .u64 (sB + xb))) := (HC2.out.any (S := [W1.heap.size])).setCell (p := ⟨W1.heap.size, 0, none⟩) (.inl (by simp)) _
          refine ⟨((KeepsOthers.of_chg HC2.out).trans (KeepsOthers.setCell _ _ _)).from _, Kp85.chg hcV (fun k hk => by have := hk.1; have := HI3.out.size; omega) (fun k hk => ?_), ?_, ?_, HI3.out.trans hcV (fun k hk => .inl hk)⟩
          · simp at hk
            subst hk
            exact ⟨fun h => h.2 rfl, fun cs h => Blk.ty HI1.out h (by decide) rfl⟩
          · have := (HI1.out.chg HC2.out (by simp)).set_ 0 (.int .u64 (sB + xb))
            rw [allB_snoc, ← HSB.out]
            simpa using this
          · intro p hp
            rcases List.mem_append.1 hp with h | h
            · exact HI2.out p h
            · simp at h; subst h; exact HP01.out
        case done =>
          rintro D' ys Vq hD hys ⟨I1, I2, I3⟩ hKD
          have hy : allB ys = T1 := by rw [← allB_strip ys, hys, allB_strip, HXS.out, HTO.out]
          rw [hy] at I1
          have hcq : Chg [] W1 Vq := HC14.out.trans I3 (fun k hk => .inr (by simp at hk; omega))
          obtain ⟨f0, f1, f2, f3, f4, f5, f6, f7⟩ := HIS.out _ ((HCB.out.then HCP.out).then hcq)
          have b0 := I1.cell 0
          have lb := I1.lt
          simp only [List.getElem?_toArray, List.getElem?_cons_zero] at b0
          have HBT := Lib.hid (HB1.out.quiet hcq)
          have HMK : Hid (Marks Wb.heap.size Vq (D' :: Ds)) := Lib.hid ((HM1.out.quiet hcq).cons (n := W1.heap.size) HM1.out.lt HCP.out.size (by omega) hKD)
          have HTT := HT1.out
          clear I1 I2 I3 hys hy hcq hKD
          by_cases hT : T1 = T
          · subst hT
            have g1 : (T1 != T1) = false := by simp
            gi_wp2
            exact Handed.intro (m - (k + 1)) (by omega) (hJ _ _ _ ⟨k + 1, T1, D' :: Ds, ex_frameS ⟨rfl, by omega⟩ ⟨HBT.out, HMK.out⟩⟩)
          · have g1 : (T1 != T) = true := by simpa using hT
            have hk17 : kind = 1 ∨ kind = 7 := by
              refine Classical.byContradiction fun hn => hT (HTT ?_)
              unfold keepK
              simp only [not_or] at hn
              simp [hn.1, hn.2]
            clear HTT hT
            rcases hk17 with rfl | rfl
            · have g2 : ((1 : Int) != 1) = false := by simp
              gi_wp2
              exact Handed.intro (m - (k + 1)) (by omega) (hJ _ _ _ ⟨k + 1, T1, D' :: Ds, ex_frameS ⟨rfl, by omega⟩ ⟨HBT.out, HMK.out⟩⟩)
            · have g2 : ((7 : Int) != 1) = true := by simp
              have g3 : ((7 : Int) != 7) = false := by simp
              gi_wp2
              exact Handed.intro (m - (k + 1)) (by omega) (hJ _ _ _ ⟨k + 1, T1, D' :: Ds, ex_frameS ⟨rfl, by omega⟩ ⟨HBT.out, HMK.out⟩⟩)
        case stop =>
          rintro D' c' pre Vq _ _ h _
          exact h.elim
      · obtain rfl : k = m := by omega
        have HBB := Lib.hid hB
        have HMM := Lib.hid hM
        clear hB hM
        gi_wp2_with (refine ⟨trivial, ?_⟩; gi_at_call 8; refine (callsIn_wide.2 (known_any _)).mono ?_; rintro e w5 ⟨rfl, hc5⟩; have q6' := HB6.out.chg (hc.then hc5) (by simp); have q0 := q6'.cell 0; have qf := q6'.frozen 0)
        have hM5 : Marks Wb.heap.size (w5.setCell ⟨w.heap.size + 1, 0, none⟩ (.bool true)) Ds := (HMM.out.quiet hc5).chg (S := [w.heap.size + 1]) ((Chg.refl _ _).setCell (p := ⟨w.heap.size + 1, 0, none⟩) (.inl (by simp)) _) (Off.cons q6' (by decide) (Off.nil _))
        refine leaves_marks (B := Wb.heap.size) (b := w.heap.size + 1) (ty := 4) (cs := #[.bool true]) (w0 := w5.setCell ⟨w.heap.size + 1, 0, none⟩ (.bool true)) (by have := hc.size; have := hc5.size; simp [World.setCell]; omega) ?_ Ds _ hM5 (Below.refl _ _) (by simpa using q6'.set_ 0 (.bool true))
        intro W' hB' hH'
        have hcc : Chg [] w W' := ((HCB.out.then (hc.then hc5)).setCell (p := ⟨w.heap.size + 1, 0, none⟩) (.inr (by simp)) (.bool true)).then_below hB' HCB.out.size
        have h0 := hH'.cell 0
        simp at h0
        exact ⟨.bool true, by simp [results, Tryz.f4, go_sem, h0, Result.andThen], rfl, hcc⟩
end Go.Proofs
end
section
namespace Go.Proofs.YtocdkomjdcccoaaGreat.contextSums
open Go.ChangeShapes Go.WideShapes Go.ChangeAt Go.RowKit
set_option linter.unusedVariables false

theorem own : ownKnob Tryz.prog.godebug = none := by kernel_rfl

set_option maxRecDepth 100000 in
theorem lifted (os : Os) (started : os.Started) (H : Type) (enc : TypeId × Value → H) :
    ReturnsInHanded {} Tryz.checked os 4 .any (Rows.contextSumsSpec.pre6 enc Tryz.prog Tryz.f4 Rows.contextSumsRow.domain false) (Rows.contextSumsSpec.post enc Tryz.prog Tryz.f4 false true false false) := by
  refine returnsInHanded_of_change (C := Tryz.checked) own started (by kernel_rfl) Tryz.func4
    (ChangeSpec.witness6 (enc := enc) (C := Tryz.checked) false ⟨#[], #[.int .i64 0, .int .i64 0, .slice none 0 0], []⟩ 8 (by kernel_rfl) (by kernel_rfl) (by kernel_rfl) (by kernel_rfl)) ?_
  intro W base args ds gs before hval0 hW hcnd _
  have hval : ∀ (j : Nat) t v, Tryz.f4.params[j]? = some t → args[j]? = some v → Value.okWide Tryz.prog W .any base t v := hval0
  have hW' := hW
  obtain ⟨p, q, hA0, hV, rfl, hfz, hnd⟩ := hW
  have hA : DataW.TrodAll enc Tryz.prog W 0 (fun _ => true) true Tryz.f4.params.toList args.toList ds p := hA0
  rw [Tryz.params4] at hA hval
  obtain ⟨v0, vs0, d0, ds0, p0, q0, hargs, rfl, rfl, h0, r0⟩ := trodAll_cons hA
  obtain ⟨v1, vs1, d1, ds1, p1, q1, rfl, rfl, rfl, h1, r1⟩ := trodAll_cons r0
  obtain ⟨v2, vs2, d2, ds2, p2, q2, rfl, rfl, rfl, h2, r2⟩ := trodAll_cons r1
  obtain ⟨rfl, rfl, rfl⟩ := trodAll_nil r2
  obtain rfl : args = #[v0, v1, v2] := by cases args; simp_all
  obtain ⟨rfl, rfl⟩ := trodVars_none hV
  obtain ⟨a0, rfl, rfl, rfl, w0⟩ := open_int Tryz.underlying3 (hval 0 3 v0 rfl rfl) h0
  obtain ⟨a1, rfl, rfl, rfl, w1⟩ := open_int Tryz.underlying3 (hval 1 3 v1 rfl rfl) h1
  clear hA0 hval0
  simp only [List.append_nil, List.nil_append] at hW'
  obtain ⟨b0, c0⟩ := bounds_i64 w0
  obtain ⟨b1, c1⟩ := bounds_i64 w1
  have hlt2 : ∀ x ∈ p2, x.block < W.heap.size := fun x hx => hW'.lt x (by simp [hx])
  obtain ⟨l2, hl2⟩ := open_acts (hval 2 22 v2 rfl rfl) h2
  refine (sums_any a0 a1 v2 l2 W hl2).mono fun e W' ⟨he, hc⟩ => ?_
  have hg := hc.to_below
  subst he
  exact ⟨_, rfl, post_of_below (pa := ([] ++ ([] ++ (p2 ++ [])))) (pv := []) hW' (fun _ _ _ => (trodAll_cons_mk (shut_bool Tryz.underlying4 _) trodAll_mk0)) (fun sp hsp => (trodAll_cons_mk (shut_int Tryz.underlying3 w0) (trodAll_cons_mk (shut_int Tryz.underlying3 w1) (trodAll_cons_mk (WideElems.Trod_stays Tryz.laidOut (by kernel_rfl) (of_decide_eq_true (by kernel_rfl)) h2 (fun x hx => hg.same (hlt2 x hx)) (fun x hx => hsp x (by simp [hx]))) trodAll_mk0)))) (fun _ _ => rfl) (by simp)
    hg (ok_one (by kernel_rfl) rfl (okWide_bool_mk Tryz.underlying4 _))⟩

theorem over : Rows.contextSumsRow.holds Tryz.pinned (OpenSpec.ofChange Rows.contextSumsSpec) :=
  OpenClaim.holds_of_wide 4 Tryz.f4 rfl rfl rfl rfl rfl rfl rfl ⟨rfl, rfl, rfl, rfl, rfl⟩ rfl rfl rfl rfl rfl (by kernel_rfl) Tryz.func4 (by kernel_rfl)
    (of_decide_eq_true (by kernel_rfl)) (by unfold Func.isWrapper; first | (rw [if_pos (by decide +kernel)]; kernel_rfl) | (rw [if_neg (by decide +kernel)]; exact ⟨rfl, rfl⟩))
    (fun os started H enc _ => lifted os started H enc)

/-- ████ THE STATEMENT ████ -/
theorem proved : Rows.ContextSumsSaid :=
  over
#print axioms proved
end Go.Proofs.YtocdkomjdcccoaaGreat.contextSums
end
