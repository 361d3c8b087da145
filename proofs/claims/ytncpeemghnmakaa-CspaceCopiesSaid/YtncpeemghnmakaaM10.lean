import Derived.Shelf.SlMaps.Clone
import Derived.Ground.SlmcProg
import Derived.Test.YtncpeemghnmakaaProg
import Derived.Test.YtncpeemghnmakaaM9
import Derived.Deep.RegionLaw
import Derived.Laws.StructEq
import Derived.ChangeKeysEq
import Derived.OwnWalk
import Derived.Maps.RangeWalk
section
namespace Go.Proofs
open Go.Shelf
def Try.cloneMap_ren : Go.Shelf.Ren := ⟨fun | 5 => 59 | 7 => 86 | n => n, fun | 23 => 70 | 25 => 94 | 3 => 3 | 4 => 4 | 20 => 20 | n => n, fun | n => n⟩
theorem Try.cloneMap : Go.Proofs.SlLaysW.n5 Try.prog Try.cloneMap_ren := {
  mixed := by kernel_rfl
  f5 := ⟨Try.f59.name, by decide, Try.func59.trans (congrArg some (by kernel_rfl))⟩
  f7 := Try.func86.trans (congrArg some (by kernel_rfl))
  t4 := Try.underlying4
  a4 := Try.isAgg4
  z4 := Try.sizeOf4
  v4 := Try.zeroValue4
  t20 := Try.underlying20
  a20 := Try.isAgg20
  z20 := Try.sizeOf20
  v20 := Try.zeroValue20
  t23 := Try.underlying70
  a23 := Try.isAgg70
  z23 := Try.sizeOf70
  v23 := Try.zeroValue70 }
end Go.Proofs
end
section
namespace Go.Proofs
open Go.RowKit
set_option linter.unusedVariables false
set_option linter.unusedSimpArgs false

/-! ### A copy -/
theorem hdCells_one (l : List Hd) : ∀ u ∈ hdCells l, u.oneCell' = true := by
  intro u hu
  unfold hdCells at hu
  rw [List.mem_flatMap] at hu
  obtain ⟨s, _, hs⟩ := hu
  simp [Hd.cells] at hs
  rcases hs with rfl | rfl | rfl | rfl | rfl | rfl <;> rfl
theorem eql_nil_71 (w : World) (a : Option Addr) (n c : Nat) : (binOp .eql 71 (.slice a n c) (.slice none 0 0)).run Try.prog w = .ok (.bool a.isNone) w := by
  simp only [binOp]
  simp [Op.equal, Op.maxDepth, Lib.run_equalIn_slice_nil w 9999 71 96 a n c 0 0 Try.underlying71]
attribute [local go_sem] eql_nil_71
set_option maxRecDepth 100000 in
theorem clone_hds {w : World} {V : Value} {l : List Hd} (hV : Row w 96 6 V l.length (hdCells l)) (hl : l.length ≤ 4096) :
    Calls Try.prog 60 #[V] w fun e w' => Cloned 96 6 l.length (hdCells l) w w' e := by
  obtain ⟨i0, hi0, hz0, hz1, hz2⟩ := info_parts Try.hd_info
  have hone := hdCells_one l
  have hV0 := hV
  rcases hV.2 with ⟨rfl, h0⟩ | ⟨g, cap, cur, rfl, hg, hc, hm, hcs, ht⟩
  · have hnil : l = [] := List.eq_nil_of_length_eq_zero h0
    subst hnil
    clear hV hV0 hone
    go_enter Try.func60, Try.ntmps60
    go_wp2
    go_ret
    exact ⟨_, rfl, Row.nil _ _ _, by simp [foot_nil], Chg.refl _ _⟩
  · have HV := Lib.hid hV0
    clear hV hV0 ht hg hcs hm hc
    obtain ⟨n, hn⟩ : ∃ n, n = l.length := ⟨_, rfl⟩
    rw [← hn] at HV hl ⊢
    clear hn
    go_enter Try.func60, Try.ntmps60
    go_wp2_with (at_builtin; refine wpList_append_copy _ rfl _ _ 71 (by rfl) 96 i0 _ 6 48 Try.underlying71 hi0 hz0 hz1 hz2 rfl (.slice (some ⟨w.heap.size, 0, none⟩) 0 0) (by rfl) ⟨by simp, .inr ⟨w.heap.size, 0, #[], rfl, Blk.new w _ _, by omega, by unfold maxLen; omega, by simp, rfl⟩⟩ (.slice (some ⟨g, 0, none⟩) n cap) n (hdCells l) (by rfl) (HV.out.alloc _) hone (by unfold maxLen; omega) (by omega) (w.heap.size + 1) (by simp) ?_; intro v' w1 hr hg hf)
    go_ret
    refine ⟨_, rfl, hr, fun k hk => ?_, ((Chg.refl [] w).alloc _).grown hg (fun k hk => ?_)⟩
    · rcases hf k hk with h9 | h9
      · simp [Value.ownBlock] at h9; omega
      · omega
    · simp [Value.ownBlock] at hk; exact .inr (by omega)
theorem clone_map {w : World} {b m : Nat} {f : Pt → Option Nat} (h : Mp w b m f) : Calls Try.prog 59 #[.map (some b)] w fun e w' => e = .returned (.map (some w.heap.size)) ∧ Mp w' w.heap.size m f ∧ Chg [] w w' := by
  obtain ⟨D, h1, h2, h3⟩ := h
  have hcon := AnyW.maps_Clone_owns (H := Unit) Try.cloneMap 94 (plainElem Try.prog 3) b _ D w h1
  change Calls Try.prog 59 _ _ _ at hcon
  exact hcon.mono fun e w' ⟨q1, q2, _, q4⟩ => ⟨q1, ⟨D, q2, h2, h3⟩, Chg.of_below q4⟩
theorem clone_nomap (w : World) : Calls Try.prog 59 #[.map none] w fun e w' => e = .returned (.map none) ∧ w' = w := AnyW.maps_Clone_nil Try.cloneMap w
theorem clone_nohds (w : World) : Calls Try.prog 60 #[.slice none 0 0] w fun e w' => e = .returned (.slice none 0 0) ∧ w' = w := by
  go_enter Try.func60, Try.ntmps60
  go_wp2
  go_ret
  exact ⟨rfl, rfl⟩
theorem Chg.new_ {w w' : World} {k : Nat} (h : Chg [k] w w') (hk : w.heap.size ≤ k) : Chg [] w w' := h.mono (fun q hq => .inr (by simp at hq; omega))
/-- A copy of a space, in new blocks. -/
def SCopied (s : Sp) (w w' : World) (e : Ending) : Prop := ∃ a S, e = .returned (ptr a) ∧ SpAt w' a S s ∧ (∀ k ∈ S, w.heap.size ≤ k) ∧ Chg [] w w'
set_option maxRecDepth 100000 in
set_option maxHeartbeats 3200000 in
theorem scopy_any {w : World} {a : Nat} {S : List Nat} {s : Sp} (h : SpAt w a S s) : Calls Try.prog 20 #[ptr a] w fun e w' => SCopied s w w' e := by
  obtain ⟨c, ⟨ht, St, bm, VH, hB, hT, hM, hR, hSS⟩, hS, hWF⟩ := h
  have h512 : s.H.length ≤ 4096 := by rw [hWF.len]; have := hWF.size.2; omega
  have HT := Lib.hid (fun W (hc : Chg [] w W) => copy_any (hT.quiet hc) (by have := hS.size; have := hS.one; omega) hS.lenN (by have := hS.count.2; have := hS.lenN; omega))
  have HM := Lib.hid (fun W (hc : Chg [] w W) => clone_map (hM.quiet hc))
  have HR := Lib.hid (fun W (hc : Chg [] w W) => clone_hds (hR.chg hc (fun _ _ h => by cases h)) h512)
  obtain ⟨A, cc, rfl, _⟩ := hR.val
  have HFIN := Lib.hid (show ∀ (W : World) (n ht' bm' : Nat) (St' : List Nat) (v : Value), Blk W n 73 #[.int .i64 s.gs, .int .i64 s.slots, ptr ht', .map (some bm'), v] → TreeAt W ht' St' c → Mp W bm' s.t.len s.f → Row W 96 6 v s.H.length (hdCells s.H) → SpAt W n (n :: bm' :: (St' ++ foot v)) s from fun W n ht' bm' St' v b1 b2 b3 b4 => ⟨c, ⟨ht', St', bm', v, b1, b2, b3, b4, rfl⟩, hS, hWF⟩)
  have lg := hB.lt
  have hne : a ≠ w.heap.size := by omega
  have b0 := hB.cell 0
  have b1 := hB.cell 1
  have b2 := hB.cell 2
  have b3 := hB.cell 3
  have b4 := hB.cell 4
  obtain ⟨N, hN⟩ : ∃ N, N = s.H.length := ⟨_, rfl⟩
  obtain ⟨G, hG⟩ : ∃ G, G = s.gs := ⟨_, rfl⟩
  obtain ⟨Z, hZ⟩ : ∃ Z, Z = s.slots := ⟨_, rfl⟩
  simp only [List.getElem?_toArray, List.getElem?_cons_zero, List.getElem?_cons_succ] at b0 b1 b2 b3 b4
  rw [← hN] at b4 HR HFIN
  rw [← hG] at b0 HFIN
  rw [← hZ] at b1 HFIN
  clear hB hT hM hR hSS hS hWF h512 hN hG hZ
  go_enter Try.func20, Try.ntmps20
  go_wp2
  have HCC := Lib.hid (((Chg.refl [] w).alloc (.cells #[.int .i64 G, .int .i64 Z, ptr ht, .map (some bm), .slice A N cc] 73)).drew)
  have HBX := Lib.hid ((Blk.new w 73 #[.int .i64 G, .int .i64 Z, ptr ht, .map (some bm), .slice A N cc]).drew)
  have KK := Lib.hid (fun W (hc : Chg [] w W) => (⟨(hc.cell (p := ⟨a, 2, none⟩) lg (by simp)).trans b2, (hc.cell (p := ⟨a, 3, none⟩) lg (by simp)).trans b3, (hc.cell (p := ⟨a, 4, none⟩) lg (by simp)).trans b4⟩ : W.cell? ⟨a, 2, none⟩ = some (ptr ht) ∧ W.cell? ⟨a, 3, none⟩ = some (.map (some bm)) ∧ W.cell? ⟨a, 4, none⟩ = some (.slice A N cc)))
  go_region_held3 (fun w' => w'.cell? ⟨a, 2, none⟩ = some (ptr ht) ∧ w'.cell? ⟨a, 3, none⟩ = some (.map (some bm)) ∧ w'.cell? ⟨a, 4, none⟩ = some (.slice A N cc))
    (first | go_keep | (simp [*, World.cell?_setCell_far, Ne.symm hne]))
    (first
      | (go_at_call 58; refine (HT.out _ HCC.out).mono ?_; rintro e w1 ⟨rfl, S1, ht1, hs1, hc1⟩; have HCC1 := Lib.hid (HCC.out.then hc1); have HBX1 := Lib.hid (HBX.out.quiet hc1); obtain ⟨k2, k3, k4⟩ := KK.out _ HCC1.out; have HT1 := Lib.hid ht1; have HS1 := Lib.hid hs1; clear ht1 hs1 hc1)
      | (go_at_call 59; refine (HM.out _ HCC1.out).mono ?_; rintro e w2 ⟨rfl, hm2, hc2⟩; have HCC2 := Lib.hid (HCC1.out.then hc2); have HBX2 := Lib.hid (HBX1.out.quiet hc2); obtain ⟨l2, l3, l4⟩ := KK.out _ HCC2.out; have HM2 := Lib.hid hm2; have HT2 := Lib.hid (HT1.out.quiet hc2); clear hm2 hc2)
      | (go_at_call 60; refine (HR.out _ HCC2.out).mono ?_; rintro e w3 ⟨v3, rfl, hr3, hf3, hc3⟩; obtain ⟨A3, c3, rfl, _⟩ := hr3.val; have HCC3 := Lib.hid (HCC2.out.then hc3); have hbx := HBX2.out.quiet hc3; have x2 := hbx.cell 2; have x3 := hbx.cell 3; have x4 := hbx.cell 4; have y2 := hbx.frozen 2; have y3 := hbx.frozen 3; have y4 := hbx.frozen 4; have lbx := hbx.lt; have HBX3 := Lib.hid hbx; obtain ⟨m2, m3, m4⟩ := KK.out _ HCC3.out; have HR3 := Lib.hid hr3; have HF3 := Lib.hid hf3; have HM3 := Lib.hid (HM2.out.quiet hc3); have HT3 := Lib.hid (HT2.out.quiet hc3); have HC3 := Lib.hid hc3; clear hr3 hf3 hc3 hbx))
  all_goals
    have hsz : ((w.alloc (.cells #[.int .i64 G, .int .i64 Z, ptr ht, .map (some bm), .slice A N cc] 73)).drew).heap.size = w.heap.size + 1 := by simp
    have hsz1 := HCC1.out.size
    have hsz2 := HCC2.out.size
    have s1 := (HCC1.out).size
    have h1lt : w.heap.size < w1.heap.size := HBX1.out.lt
    have ht3 := HT3.out
    rw [hsz] at ht3
    have hs1 : ∀ k ∈ S1, w.heap.size + 1 ≤ k := fun k hk => by have := HS1.out k hk; rw [hsz] at this; exact this
    have hf3 : ∀ k ∈ foot (.slice A3 N c3), w2.heap.size ≤ k := HF3.out
    have h2 : w1.heap.size < w2.heap.size := HM2.out.lt
    have hbx := ((HBX3.out.set_ 2 (ptr (w.heap.size + 1))).set_ 3 (.map (some w1.heap.size))).set_ 4 (.slice A3 N c3)
    have hch : Chg [w.heap.size] w3 (((w3.setCell ⟨w.heap.size, 2, none⟩ (ptr (w.heap.size + 1))).setCell ⟨w.heap.size, 3, none⟩ (.map (some w1.heap.size))).setCell ⟨w.heap.size, 4, none⟩ (.slice A3 N c3)) := (((Chg.refl _ _).setCell (.inl (by simp)) _).setCell (.inl (by simp)) _).setCell (.inl (by simp)) _
    have hfin := HFIN.out _ w.heap.size (w.heap.size + 1) w1.heap.size S1 (.slice A3 N c3) hbx (ht3.chg hch (fun k hk e => by simp at e; have := hs1 k hk; omega)) (HM3.out.chg hch (by simp; omega)) (HR3.out.chg hch (fun k hk e => by simp at e; have := hf3 k hk; omega))
    have HQ := Lib.hid hfin
    have HQ2 := Lib.hid (show ∀ k ∈ w.heap.size :: w1.heap.size :: (S1 ++ foot (.slice A3 N c3)), w.heap.size ≤ k from fun k hk => by
      simp only [List.mem_cons, List.mem_append] at hk
      rcases hk with rfl | rfl | hk | hk
      · exact Nat.le_refl _
      · omega
      · have := hs1 k hk; omega
      · have := hf3 k hk; omega)
    have HQ3 := Lib.hid ((HCC3.out.any (S := [w.heap.size])).trans hch (fun k hk => .inl hk))
    clear hsz hsz1 hsz2 s1 h1lt ht3 hs1 hf3 h2 hbx hch hfin
    go_wp2
    go_ret
    exact ⟨w.heap.size, _, rfl, HQ.out, HQ2.out, HQ3.out.new_ (Nat.le_refl _)⟩
theorem scopy_nil (w : World) : Calls Try.prog 20 #[.pointer none] w fun e w' => e = .returned (.pointer none) ∧ w' = w := by
  go_enter Try.func20, Try.ntmps20
  go_wp2
  go_ret
  exact ⟨rfl, rfl⟩
end Go.Proofs
end
section
namespace Go.Proofs
open Go.RowKit
set_option linter.unusedVariables false
set_option linter.unusedSimpArgs false

/-! ### Two capabilities, places, things that are held: are they the same? -/
theorem eq_ref_run (d : Nat) (a b c e : Int) (W : World) : (Op.equalIn (d + 2) 36 (.agg #[.int .i64 a, .int .u64 b]) (.agg #[.int .i64 c, .int .u64 e])).run Try.prog W = .ok (a == c && b == e) W := by
  have h1 : Try.prog.underlying 36 = some (.struct (Try.prog.fieldsOf 36)) := by kernel_rfl
  have h2 : Try.prog.stoodInHeld 36 = false := by kernel_rfl
  rw [run_equalIn_agg (ht := h1) (hp := h2)]
  simp [go_sem, Try.underlying36, Op.eqFields, Try.underlying3, Try.underlying34]
  by_cases e1 : a = c <;> by_cases e2 : b = e <;> simp [e1, e2]
set_option maxRecDepth 100000 in
theorem eq_cap_run (d : Nat) (a b : Cp) (W : World) : (Op.equalIn (d + 3) 39 a.val b.val).run Try.prog W = .ok (decide (a = b)) W := by
  have h1 : Try.prog.underlying 39 = some (.struct (Try.prog.fieldsOf 39)) := by kernel_rfl
  have h2 : Try.prog.stoodInHeld 39 = false := by kernel_rfl
  rw [run_equalIn_agg (ht := h1) (hp := h2)]
  obtain ⟨a0, a1, a2, a3⟩ := a
  obtain ⟨b0, b1, b2, b3⟩ := b
  have hr := fun W => eq_ref_run d a1 a2 b1 b2 W
  simp [go_sem, Try.underlying39, Op.eqFields, Try.underlying33, Try.underlying37, hr]
  by_cases e0 : a0 = b0
  · by_cases e1 : a1 = b1
    · by_cases e2 : a2 = b2
      · by_cases e3 : a3 = b3
        · simp [e0, e1, e2, e3]
        · have e4 : ¬ ((a3 : Int) = (b3 : Int)) := by omega
          simp [e0, e1, e2, e3, e4]
      · simp [e0, e1, e2]
    · simp [e0, e1]
  · simp [e0]
theorem neq_cap (a b : Cp) (W : World) : (binOp .neq 39 a.val b.val).run Try.prog W = .ok (.bool (!decide (a = b))) W := by
  rw [run_neq_struct, eq_cap_run 9997]; rfl
theorem eql_cap (a b : Cp) (W : World) : (binOp .eql 39 a.val b.val).run Try.prog W = .ok (.bool (decide (a = b))) W := by
  rw [run_eql_struct, eq_cap_run 9997]; rfl
theorem eq_hl_run (d : Nat) (a b : Hl) (W : World) : (Op.equalIn (d + 4) 49 (.agg a.arr) (.agg b.arr)).run Try.prog W = .ok (decide (a = b)) W := by
  have h1 : Try.prog.underlying 49 = some (.struct (Try.prog.fieldsOf 49)) := by kernel_rfl
  have h2 : Try.prog.stoodInHeld 49 = false := by kernel_rfl
  rw [run_equalIn_agg (ht := h1) (hp := h2)]
  obtain ⟨a0, a1⟩ := a
  obtain ⟨b0, b1⟩ := b
  have hr := fun W => eq_cap_run d a1 b1 W
  simp only [Cp.val, Cp.arr] at hr
  simp [go_sem, Try.underlying49, Op.eqFields, Try.underlying3, hr]
  by_cases e0 : a0 = b0
  · by_cases e1 : a1 = b1
    · simp [e0, e1]
    · simp [e0, e1]
  · simp [e0]
theorem neq_hl (a b : Hl) (W : World) : (binOp .neq 49 (.agg a.arr) (.agg b.arr)).run Try.prog W = .ok (.bool (!decide (a = b))) W := by
  rw [run_neq_struct, eq_hl_run 9996]; rfl
theorem eq_pt_run (d : Nat) (a b : Pt) (W : World) : (Op.equalIn (d + 2) 94 a.val b.val).run Try.prog W = .ok (decide (a = b)) W := by
  obtain ⟨i0, hi0, hz0, hz1, hz2⟩ := info_parts Try.num_info
  rw [run_equalIn_array (hu := Try.underlying94) (hi := hi0)]
  obtain ⟨a0, a1⟩ := a
  obtain ⟨b0, b1⟩ := b
  simp [go_sem, Op.eqItems, List.range_succ, cellsOf3, Try.underlying3]
  by_cases e0 : a0 = b0
  · by_cases e1 : a1 = b1
    · simp [e0, e1]
    · simp [e0, e1]
  · simp [e0]
theorem eql_pt (a b : Pt) (W : World) : (binOp .eql 94 a.val b.val).run Try.prog W = .ok (.bool (decide (a = b))) W := by
  rw [run_eql_struct, eq_pt_run 9998]; rfl
end Go.Proofs
end
section
namespace Go.Proofs
open Go.RowKit
set_option linter.unusedVariables false
set_option linter.unusedSimpArgs false

/-! ### The document's Caps and Clear -/
def Rf.heldO (r : Rf) (g : Int) (k : Nat) : List Hl := match r.atO ⟨g, (k : Nat)⟩ with | some x => [⟨(k : Nat), x.cap⟩] | none => []
def Rf.capsTo (r : Rf) (g : Int) : Nat → List Hl
  | 0 => []
  | k + 1 => r.capsTo g k ++ r.heldO g k
def Rf.caps (r : Rf) (g : Int) : List Hl := r.capsTo g r.slots
theorem Rf.capsTo_len (r : Rf) (g : Int) (k : Nat) : (r.capsTo g k).length ≤ k := by
  induction k with
  | zero => exact Nat.le_refl _
  | succ k ih =>
    show (r.capsTo g k ++ r.heldO g k).length ≤ k + 1
    rw [List.length_append]
    have : (r.heldO g k).length ≤ 1 := by unfold Rf.heldO; split <;> simp
    omega
theorem Rf.fI_cases (r : Rf) (p : Pt) : (r.atO p = none ∧ r.fI p = -1) ∨ ∃ x, r.atO p = some x ∧ r.fI p = ((r.fd p : Nat) : Int) ∧ r.fd p < r.L.length ∧ atP p x = true := by
  by_cases h : r.fd p < r.L.length
  · right
    obtain ⟨x, hx, hp⟩ := fnd_mem h
    exact ⟨x, hx, by unfold Rf.fI; rw [if_pos h], h, hp⟩
  · left
    exact ⟨List.getElem?_eq_none (by omega), by unfold Rf.fI; rw [if_neg h]⟩
section
variable {w : World} {b : Nat} {S : List Nat} {r : Rf}
set_option maxHeartbeats 3200000 in
set_option maxRecDepth 100000 in
theorem rcaps_any (H : RefAt w b S r) (hl : r.L.length ≤ 10000) (hs : r.slots ≤ 32) (g : Int) : Calls Try.prog 50 #[ptr b, .int .i64 g] w fun e w' => NewH w w' e (r.caps g) := by
  have H2 := Lib.hid (fun W (hq : Chg [] w W) (k : Nat) => find_is (H.quiet hq) (by omega) ⟨g, (k : Nat)⟩)
  obtain ⟨A0, cc0, hA, hcc, hh, hrow, hgb⟩ := H.head
  have HH := Lib.hid (fun W (hc : Chg [] w W) => (⟨(hh W hc).2.1, (hh W hc).2.2.2.1, (hh W hc).2.2.2.2.2.1⟩ : W.cell? ⟨b, 1, none⟩ = some (.int .i64 (r.slots : Nat)) ∧ W.cell? ⟨b, 3, none⟩ = some (.slice A0 r.L.length cc0) ∧ b < W.heap.size))
  have HROW := Lib.hid (fun k y (hy : r.L[k]? = some y) => hrow k y hy)
  obtain ⟨i0, hi0, hz0, hz1, hz2⟩ := info_parts hl_info
  obtain ⟨N, hN⟩ : ∃ N, N = r.L.length := ⟨_, rfl⟩
  obtain ⟨M, hM⟩ : ∃ M, M = r.slots := ⟨_, rfl⟩
  have HN := Lib.hid hN
  rw [← hN] at HH hl
  rw [← hM] at HH hs
  have HFC := Lib.hid (fun (k : Nat) => r.fI_cases ⟨g, (k : Nat)⟩)
  have HE := Lib.hid (show ∀ k, r.capsTo g (k + 1) = r.capsTo g k ++ r.heldO g k from fun _ => rfl)
  have HL := Lib.hid (r.capsTo_len g)
  have HFIN := Lib.hid (show r.caps g = r.capsTo g M by rw [hM]; rfl)
  clear H hh hrow hA hcc hN hM hgb
  go_enter Try.func50, Try.ntmps50
  go_wp2
  go_loopg [5, 6] M (fun gh l i wr => ∃ (k : Nat) (A : Option Addr) (cc : Nat), k + gh = M ∧ i = .int .i64 k ∧ l = .slice A (r.capsTo g k).length cc ∧ Hid (FreshH w wr (.slice A (r.capsTo g k).length cc) (r.capsTo g k)))
  case atStart => exact ⟨0, none, 0, by omega, rfl, rfl, Lib.hid (FreshH.nil (Chg.refl _ _))⟩
  case round =>
    obtain ⟨k, A, cc, hk, rfl, rfl, HI⟩ := hrel
    obtain ⟨c1, c3, lb⟩ := HH.out wr HI.out.2.2
    by_cases hlt : k < M
    · have k1 : (k : Int) < (M : Int) := by omega
      have HNX := Lib.hid (H2.out _ HI.out.2.2 k)
      rcases HFC.out k with ⟨hf, hfi⟩ | ⟨x, hf, hfi, hfl, _⟩
      · rw [hfi] at HNX
        have HE1 := Lib.hid (show r.capsTo g (k + 1) = r.capsTo g k by rw [HE.out]; unfold Rf.heldO; rw [hf]; simp)
        clear hf hfi
        go_wp2_with (go_at_call 27; refine HNX.out.mono ?_; rintro e wr ⟨rfl, rfl⟩)
        go_roundg (M - k - 1)
        case measure => omega
        case rel => exact ⟨k + 1, A, cc, by omega, by go_num, by rw [HE1.out], Lib.hid (by rw [HE1.out]; exact HI.out)⟩
      · rw [hfi] at HNX
        have HE1 := Lib.hid (show r.capsTo g (k + 1) = r.capsTo g k ++ [⟨(k : Nat), x.cap⟩] by rw [HE.out]; unfold Rf.heldO; rw [hf])
        obtain ⟨g6, rfl, hg6, hcell⟩ := HROW.out _ x hf
        obtain ⟨lg, _, _, _, _, _, y4, y5, y6, y7⟩ := hcell wr HI.out.2.2
        obtain ⟨n, hn⟩ : ∃ n, n = r.fd ⟨g, (k : Nat)⟩ := ⟨_, rfl⟩
        rw [← hn] at HNX hfl y4 y5 y6 y7
        rw [← HN.out] at hfl
        have j0 : (0 : Int) ≤ (n : Int) := by omega
        have j1 : (n : Int) < (N : Int) := by omega
        obtain ⟨xi, xp, xg, xs, ⟨ck, ci, cg, cr⟩⟩ := x
        simp only at y4 y5 y6 y7 HE1
        obtain ⟨q, hq⟩ : ∃ q, q = (r.capsTo g k).length := ⟨_, rfl⟩
        have HQ := Lib.hid hq
        have hq32 : q ≤ 32 := by have := HL.out k; omega
        have HI2 := Lib.hid HI.out
        rw [← hq] at HI2
        have HROWH := Lib.hid (show Row wr 49 5 (.slice A q cc) q (hlCells (r.capsTo g k)) from by have h9 := HI.out.1; rw [← hq] at h9; exact h9)
        rw [← hq]
        clear hf hfi hcell hn hq HI
        go_wp2_with (first
          | (go_at_call 27; refine HNX.out.mono ?_; rintro e wr ⟨rfl, rfl⟩)
          | (at_builtin; (refine wpList_append_row _ (by rfl) _ _ 44 (by rfl) 49 i0 _ 5 40 Try.underlying44 hi0 hz0 hz1 hz2 rfl (.slice A q cc) q (hlCells (r.capsTo g k)) (by rfl) (HROWH.out.alloc _) ⟨wr.heap.size, 0, none⟩ 1 1 [.int .i64 (k : Nat), .int .i64 ck, .int .i64 ci, .int .u64 cg, .int .u8 (cr : Nat)] (by rfl) (by rfl) (World.news_of_block (cs := #[.int .i64 (k : Nat), .int .i64 ck, .int .i64 ci, .int .u64 cg, .int .u8 (cr : Nat)]) (t := 49) (fr := (0, 0)) (heap_alloc_new wr _)) (by simp [Value.oneCell']) (by omega) (by unfold maxLen; omega) (by omega) (wr.heap.size + 1) (by simp) ?_; intro gg cap w2 hown hgrow hat hlt1; have HOWN := Lib.hid hown; have HG := Lib.hid hgrow; have HAT := Lib.hid hat; clear hown hgrow hat)))
        have hlen : (r.capsTo g (k + 1)).length = q + 1 := by rw [HE1.out, List.length_append, ← HQ.out]; rfl
        go_roundg (M - k - 1)
        case measure => omega
        case rel =>
          refine ⟨k + 1, _, cap, by omega, by go_num, by rw [hlen], Lib.hid ?_⟩
          rw [hlen]
          refine ⟨?_, fun b hb => ?_, ?_⟩
          · rw [hlen, HE1.out, hlCells_snoc]
            exact HOWN.out
          · rcases foot_grown HAT.out (S := foot (.slice A q cc)) (fun k hk => hk) b hb with h1 | h1
            · exact HI2.out.2.1 b h1
            · have h2 := HI2.out.2.2.size
              omega
          · refine (HI2.out.2.2.alloc _).grown HG.out (fun b hb => ?_)
            exact .inr (HI2.out.2.1 b (row_mem hb))
    · obtain rfl : k = M := by omega
      have HI2 := Lib.hid HI.out
      go_wp2
      go_ret
      have hh := HI2.out
      rw [HFIN.out]
      exact ⟨A, cc, rfl, hh⟩
def Rf.delP (r : Rf) (p : Pt) : Rf := if r.fullE p = 0 then r.del p else r
def Rf.clear (r : Rf) (g : Int) (l : List Hl) : Rf := l.foldl (fun r x => r.delP ⟨g, x.slot⟩) r
theorem Rf.delP_len (r : Rf) (p : Pt) : (r.delP p).L.length ≤ r.L.length := by
  unfold Rf.delP
  split
  · unfold Rf.del
    split
    · exact delL_len _ _
    · exact Nat.le_refl _
  · exact Nat.le_refl _
theorem Rf.clear_len (g : Int) : ∀ (l : List Hl) (r : Rf), (r.clear g l).L.length ≤ r.L.length
  | [], r => Nat.le_refl _
  | x :: l, r => Nat.le_trans (Rf.clear_len g l (r.delP ⟨g, x.slot⟩)) (r.delP_len _)
theorem Rf.clear_snoc (r : Rf) (g : Int) (l : List Hl) (x : Hl) : r.clear g (l ++ [x]) = (r.clear g l).delP ⟨g, x.slot⟩ := by unfold Rf.clear; rw [List.foldl_append]; rfl
theorem RefAt.norow (H : RefAt w b S r) {e : TypeId} {sz n : Nat} {v : Value} {xs : List Value} (hr : Row w e sz v n xs) (h1 : e ≠ 64) (h2 : e ≠ 66) : ∀ k ∈ foot v, k ∉ S := by
  intro k hk
  rcases hr.2 with ⟨rfl, _⟩ | ⟨g, cap, cur, rfl, hg, _⟩
  · cases hk
  · simp [foot_some] at hk; subst hk; exact H.other hg h1 h2
set_option maxHeartbeats 3200000 in
set_option maxRecDepth 100000 in
theorem rclear_any (H : RefAt w b S r) (hl : r.L.length ≤ 10000) (hs : r.slots ≤ 32) (g : Int) : Calls Try.prog 48 #[ptr b, .int .i64 g] w fun e w' => e = .returned (.int .i64 ((r.caps g).length : Nat)) ∧ RTurns b S (r.clear g (r.caps g)) w w' := by
  have HCP := rcaps_any H hl hs g
  obtain ⟨l, hll⟩ : ∃ l, l = r.caps g := ⟨_, rfl⟩
  have hl32 : l.length ≤ 32 := by rw [hll]; exact Nat.le_trans (r.capsTo_len g r.slots) hs
  rw [← hll] at HCP ⊢
  have H0 := Lib.hid H
  clear H hll
  go_enter Try.func48, Try.ntmps48
  go_wp2_with (go_at_call 50; refine HCP.mono ?_; rintro e w1 ⟨A, cc, rfl, hf⟩; have HF := Lib.hid hf; clear hf)
  obtain ⟨N, hN⟩ : ∃ N, N = l.length := ⟨_, rfl⟩
  have HN := Lib.hid hN
  rw [← hN] at HF hl32 ⊢
  clear hN
  go_loopg [6] N (fun gh i wr => ∃ (k : Nat), k + gh = N ∧ i = .int .i64 k ∧ Hid (RTurns b S (r.clear g (l.take k)) w wr ∧ Row wr 49 5 (.slice A N cc) N (hlCells l)))
  case atStart => exact ⟨0, by omega, rfl, Lib.hid ⟨RTurns.refl H0.out HF.out.2.2, by have := HF.out.1; rw [← HN.out] at this; exact this⟩⟩
  case round =>
    obtain ⟨k, hk, rfl, HI⟩ := hrel
    by_cases hlt : k < N
    · obtain ⟨x, hx⟩ : ∃ x, l[k]? = some x := ⟨_, List.getElem?_eq_getElem (by rw [← HN.out]; exact hlt)⟩
      obtain ⟨gb, cap, hv, hft, _, hcell, _, hbl⟩ := HI.out.2.form (by omega)
      injection hv with hA _ hcc
      subst hA hcc
      obtain ⟨x0, x1, x2, x3, x4⟩ := hlCells_at l k x hx
      have y0 := hcell _ _ x0
      have HST := Lib.hid (show r.clear g (l.take (k + 1)) = (r.clear g (l.take k)).delP ⟨g, x.slot⟩ by rw [List.take_add_one, hx]; exact Rf.clear_snoc _ _ _ _)
      obtain ⟨S1, q1, q2, q3⟩ := HI.out.1
      have HD := Lib.hid (rdelete_any q1 (Nat.le_trans (Rf.clear_len g _ _) hl) ⟨g, x.slot⟩)
      have HQ2 := Lib.hid q2
      have HQ3 := Lib.hid q3
      have HAP := Lib.hid (q1.norow HI.out.2 (by decide) (by decide))
      have HROW := Lib.hid HI.out.2
      have k0 : (0 : Int) ≤ (k : Int) := by omega
      have k1 : (k : Int) < (N : Int) := by omega
      clear HI hx hcell x0 x1 x2 x3 x4 q1 q2 q3 hft
      obtain ⟨xs, ⟨ck, ci, cg, cr⟩⟩ := x
      go_wp2_with (go_at_call 46; refine HD.out.mono ?_; rintro e w2 ⟨rfl, hT⟩; have HT := Lib.hid hT; clear hT)
      go_roundg (N - k - 1)
      case measure => omega
      case rel =>
        refine ⟨k + 1, by omega, by go_num, Lib.hid ⟨?_, ?_⟩⟩
        · rw [HST.out]
          exact RTurns.trans HQ2.out HQ3.out HT.out
        · obtain ⟨_, _, _, t3⟩ := HT.out
          exact HROW.out.chg t3 HAP.out
    · obtain rfl : k = N := by omega
      have HI2 := Lib.hid HI.out.1
      have HTK := Lib.hid (show l.take k = l by rw [HN.out]; exact List.take_length)
      go_wp2
      go_ret
      have hh := HI2.out
      rw [HTK.out] at hh
      exact ⟨by rw [← HN.out]; rfl, hh⟩
end
end Go.Proofs
end
section
namespace Go.Proofs
open Go.RowKit
set_option linter.unusedVariables false
set_option linter.unusedSimpArgs false

/-! ### The document's Parent, Under, New, Copy, SameHeld -/
def ofP (x : On) (y : On) : Bool := decide (y.id = x.par)
def Rf.parAt (r : Rf) (p : Pt) : Option Pt := match r.atO p with | none => none | some x => (r.L[fnd (ofP x) r.L]?).map fun y => ⟨y.g, y.s⟩
section
variable {w : World} {b : Nat} {S : List Nat} {r : Rf}
set_option maxHeartbeats 3200000 in
set_option maxRecDepth 100000 in
theorem rparent_any (H : RefAt w b S r) (hl : r.L.length ≤ 100000) (p : Pt) : Calls Try.prog 28 #[ptr b, .int .i64 p.g, .int .i64 p.s] w fun e w' => e = .returned (.tuple #[.int .i64 (ptO (r.parAt p)).g, .int .i64 (ptO (r.parAt p)).s, .bool (r.parAt p).isSome]) ∧ Chg [] w w' := by
  have H2 := find_is H hl p
  rcases r.fI_cases p with ⟨hf, hfi⟩ | ⟨x, hf, hfi, hfl, _⟩
  · rw [hfi] at H2
    have hz : r.parAt p = none := by unfold Rf.parAt; rw [hf]
    rw [hz]
    clear H hf hfi hz
    go_enter Try.func28, Try.ntmps28
    go_wp2_with (go_at_call 27; refine H2.mono ?_; rintro e w' ⟨rfl, rfl⟩)
    go_ret3
    exact ⟨rfl, Chg.refl _ _⟩
  · rw [hfi] at H2
    obtain ⟨A, cc, hA, hcc, hh, hrow, _⟩ := H.head
    have HH := Lib.hid (fun W (hc : Chg [] w W) => (⟨(hh W hc).2.2.2.1, (hh W hc).2.2.2.2.2.1⟩ : W.cell? ⟨b, 3, none⟩ = some (.slice A r.L.length cc) ∧ b < W.heap.size))
    have HROW := Lib.hid hrow
    obtain ⟨g, rfl, hg, hcellx⟩ := hrow _ x hf
    have HX := Lib.hid (fun W (hc : Chg [] w W) => (⟨(hcellx W hc).1, (hcellx W hc).2.2.2.1⟩ : g < W.heap.size ∧ W.cell? ⟨g, r.fd p * 8 + 1, none⟩ = some (.int .i64 (x.par : Nat))))
    obtain ⟨N, hN⟩ : ∃ N, N = r.L.length := ⟨_, rfl⟩
    obtain ⟨m, hm⟩ : ∃ m, m = r.fd p := ⟨_, rfl⟩
    have HN := Lib.hid hN
    rw [← hN] at HH hl hfl
    rw [← hm] at HX H2 hfl
    have m0 : (0 : Int) ≤ (m : Int) := by omega
    have m1 : (m : Int) < (N : Int) := by omega
    have HF := Lib.hid (show ∀ k y, (∀ j z, j < k → r.L[j]? = some z → ofP x z = false) → r.L[k]? = some y → ofP x y = true → r.parAt p = some ⟨y.g, y.s⟩ from fun k y h1 h2 h3 => by
      unfold Rf.parAt; rw [hf]; simp only; rw [fnd_first h1 h2 h3, h2]; rfl)
    have HF0 := Lib.hid (show (∀ j z, j < N → r.L[j]? = some z → ofP x z = false) → r.parAt p = none from fun h1 => by
      unfold Rf.parAt; rw [hf]; simp only; rw [fnd_none (by rw [← hN]; exact h1), List.getElem?_eq_none (Nat.le_refl _)]; rfl)
    obtain ⟨xp, hxp⟩ : ∃ xp, xp = x.par := ⟨_, rfl⟩
    have HXP := Lib.hid hxp
    rw [← hxp] at HX
    clear H hh hrow hcellx hA hcc hN hm hf hfi hg hxp
    go_enter Try.func28, Try.ntmps28
    go_wp2_with (go_at_call 27; refine H2.mono ?_; rintro e w ⟨rfl, rfl⟩)
    go_loopg [10] N (fun gh i wr => ∃ k : Nat, k + gh = N ∧ i = .int .i64 k ∧ Hid (Chg [] w wr ∧ ∀ j z, j < k → r.L[j]? = some z → ofP x z = false))
    case atStart => exact ⟨0, by omega, rfl, Lib.hid ⟨Chg.refl _ _, fun j z hj => by omega⟩⟩
    case round =>
      obtain ⟨k, hk, rfl, HI⟩ := hrel
      obtain ⟨c3, lb⟩ := HH.out wr HI.out.1
      obtain ⟨lg, xc⟩ := HX.out wr HI.out.1
      by_cases hlt : k < N
      · obtain ⟨y, hy⟩ : ∃ y, r.L[k]? = some y := ⟨_, List.getElem?_eq_getElem (by rw [← HN.out]; exact hlt)⟩
        obtain ⟨g2, hgg, hgb, hcell⟩ := HROW.out k y hy
        injection hgg with hgg
        injection hgg with hgg
        subst hgg
        obtain ⟨_, _, y0, y1, y2, y3, _⟩ := hcell wr HI.out.1
        have k0 : (0 : Int) ≤ (k : Int) := by omega
        have k1 : (k : Int) < (N : Int) := by omega
        have HY := Lib.hid hy
        have hxp := HXP.out
        by_cases e1 : y.id = xp
        · have d1 : ((y.id : Int) == (xp : Int)) = true := by rw [e1]; simp
          have HR := Lib.hid (HF.out k y HI.out.2 hy (by unfold ofP; rw [decide_eq_true_iff]; omega))
          obtain ⟨yi, yp, yg, ys, yc⟩ := y
          simp only at y0 y1 y2 y3 d1 HR
          clear hcell hy e1 hxp y1
          go_wp2
          go_quiet (fail)
          go_wp2
          go_quiet (fail)
          go_wp2
          go_ret3
          rw [HR.out]
          exact ⟨rfl, (HI.out.1.drewN _).drewN _⟩
        · have d1 : ((y.id : Int) == (xp : Int)) = false := by simp; omega
          have HNX := Lib.hid (show ∀ j z, j < k + 1 → r.L[j]? = some z → ofP x z = false from fun j z hj hz => by
            by_cases ej : j = k
            · subst ej
              rw [HY.out] at hz
              cases hz
              unfold ofP
              rw [decide_eq_false_iff_not]
              omega
            · exact HI.out.2 j z (by omega) hz)
          obtain ⟨yi, yp, yg, ys, yc⟩ := y
          simp only at y0 y1 y2 y3 d1
          clear hcell hy e1 hxp y1 y2 y3
          go_wp2
          go_quiet (fail)
          go_wp2
          go_roundg (N - k - 1)
          case measure => omega
          case rel => exact ⟨k + 1, by omega, by go_num, Lib.hid ⟨HI.out.1.drewN _, HNX.out⟩⟩
      · obtain rfl : k = N := by omega
        have HR := Lib.hid (HF0.out HI.out.2)
        go_wp2
        go_ret3
        rw [HR.out]
        exact ⟨rfl, HI.out.1⟩
end
end Go.Proofs
end
section
namespace Go.Proofs
open Go.RowKit
set_option linter.unusedVariables false
set_option linter.unusedSimpArgs false
section
variable {w : World} {b : Nat} {S : List Nat} {r : Rf}
set_option maxHeartbeats 3200000 in
set_option maxRecDepth 100000 in
theorem runder_no (H : RefAt w b S r) (hl : r.L.length ≤ 10000) (p q : Pt) (hn : r.atO p = none ∨ r.atO q = none) : Calls Try.prog 24 #[ptr b, .int .i64 p.g, .int .i64 p.s, .int .i64 q.g, .int .i64 q.s] w fun e w' => e = .returned (.bool false) ∧ Chg [] w w' := by
  have H1 := find_is H (by omega) p
  have H2 := find_is H (by omega) q
  have hneg : ∀ u, r.atO u = none → r.fI u = -1 := fun u hu => by
    rcases r.fI_cases u with ⟨_, h⟩ | ⟨x, h, _⟩
    · exact h
    · rw [hu] at h; cases h
  by_cases hp : r.atO p = none
  · rw [hneg p hp] at H1
    obtain ⟨z, hz⟩ : ∃ z, z = r.fI q := ⟨_, rfl⟩
    rw [← hz] at H2
    have tok : True := trivial
    clear H hn hneg hp hz
    go_enter Try.func24, Try.ntmps24
    go_wp2_with (first
      | (go_at_call 27; have _t := tok; refine H1.mono ?_; rintro e w ⟨rfl, rfl⟩; clear tok)
      | (go_at_call 27; refine H2.mono ?_; rintro e w ⟨rfl, rfl⟩))
    go_quiet (fail)
    go_wp2
    go_ret
    exact ⟨rfl, (Chg.refl _ _).drewN _⟩
  · have hq : r.atO q = none := by rcases hn with h | h; exact absurd h hp; exact h
    rw [hneg q hq] at H2
    rcases r.fI_cases p with ⟨h, _⟩ | ⟨x, hx, hf, _⟩
    · exact absurd h hp
    rw [hf] at H1
    obtain ⟨n, hn⟩ : ∃ n, n = r.fd p := ⟨_, rfl⟩
    rw [← hn] at H1
    have tok : True := trivial
    clear H hn hneg hp hq hx hf hl
    go_enter Try.func24, Try.ntmps24
    go_wp2_with (first
      | (go_at_call 27; have _t := tok; refine H1.mono ?_; rintro e w ⟨rfl, rfl⟩; clear tok)
      | (go_at_call 27; refine H2.mono ?_; rintro e w ⟨rfl, rfl⟩))
    have d1 : decide ((n : Int) ≥ 0) = true := decide_eq_true (by omega)
    go_quiet (fail)
    go_wp2
    go_ret
    exact ⟨rfl, (Chg.refl _ _).drewN _⟩
set_option maxHeartbeats 6400000 in
set_option maxRecDepth 100000 in
theorem runder_some (H : RefAt w b S r) (hl : r.L.length ≤ 10000) (p q : Pt) {x y : On} (hx : r.atO p = some x) (hy : r.atO q = some y) {l : List On} (ha : Ab r.L x l) (hll : l.length ≤ r.L.length) {a : Bool} (hb : a = true ↔ y.id ∈ l.map On.id) :
    Calls Try.prog 24 #[ptr b, .int .i64 p.g, .int .i64 p.s, .int .i64 q.g, .int .i64 q.s] w fun e w' => e = .returned (.bool a) ∧ Chg [] w w' := by
  have H1 := find_is H (by omega) p
  have H2 := find_is H (by omega) q
  obtain ⟨hpI, hpl⟩ : r.fI p = ((r.fd p : Nat) : Int) ∧ r.fd p < r.L.length := by
    rcases r.fI_cases p with ⟨h, _⟩ | ⟨z, _, hf, hf2, _⟩
    · rw [hx] at h; cases h
    · exact ⟨hf, hf2⟩
  obtain ⟨hqI, hql⟩ : r.fI q = ((r.fd q : Nat) : Int) ∧ r.fd q < r.L.length := by
    rcases r.fI_cases q with ⟨h, _⟩ | ⟨z, _, hf, hf2, _⟩
    · rw [hy] at h; cases h
    · exact ⟨hf, hf2⟩
  rw [hpI] at H1
  rw [hqI] at H2
  have HAB := Lib.hid (fun W (hc : Chg [] w W) => above_any (H.quiet hc) hl y.id ha hll hb)
  obtain ⟨A, cc, hA, hcc, hh, hrow, _⟩ := H.head
  obtain ⟨_, _, _, c3, _, lb, _⟩ := hh w (Chg.refl _ _)
  obtain ⟨g, rfl, hg, hcx⟩ := hrow _ x hx
  obtain ⟨g2, hgg, _, hcy⟩ := hrow _ y hy
  injection hgg with hgg
  injection hgg with hgg
  subst hgg
  obtain ⟨lg, _, x0, x1, x2, x3, x4, x5, x6, x7⟩ := hcx w (Chg.refl _ _)
  obtain ⟨_, _, y0, _⟩ := hcy w (Chg.refl _ _)
  obtain ⟨N, hN⟩ : ∃ N, N = r.L.length := ⟨_, rfl⟩
  obtain ⟨n, hn⟩ : ∃ n, n = r.fd p := ⟨_, rfl⟩
  obtain ⟨m, hm⟩ : ∃ m, m = r.fd q := ⟨_, rfl⟩
  obtain ⟨yi, hyi⟩ : ∃ yi, yi = y.id := ⟨_, rfl⟩
  rw [← hN] at c3 hpl hql
  rw [← hn] at H1 hpl x0 x1 x2 x3 x4 x5 x6 x7
  rw [← hm] at H2 hql y0
  rw [← hyi] at y0 HAB
  have i0 : (0 : Int) ≤ (n : Int) := by omega
  have i1 : (n : Int) < (N : Int) := by omega
  have i2 : (0 : Int) ≤ (m : Int) := by omega
  have i3 : (m : Int) < (N : Int) := by omega
  have d1 : decide ((n : Int) ≥ 0) = true := decide_eq_true (by omega)
  have d2 : decide ((m : Int) ≥ 0) = true := decide_eq_true (by omega)
  have HK := Lib.hid (show ∀ W, Chg [] w W → W.cell? ⟨b, 3, none⟩ = some (.slice (some ⟨g, 0, none⟩) N cc) ∧ W.cell? ⟨g, m * 8, none⟩ = some (.int .i64 (yi : Nat)) ∧ W.cell? ⟨g, n * 8, none⟩ = some (.int .i64 (x.id : Nat)) ∧ W.cell? ⟨g, n * 8 + 1, none⟩ = some (.int .i64 (x.par : Nat)) ∧ W.cell? ⟨g, n * 8 + 2, none⟩ = some (.int .i64 x.g) ∧ W.cell? ⟨g, n * 8 + 3, none⟩ = some (.int .i64 x.s) ∧ W.cell? ⟨g, n * 8 + 4, none⟩ = some (.int .i64 x.cap.kind) ∧ W.cell? ⟨g, n * 8 + 5, none⟩ = some (.int .i64 x.cap.idx) ∧ W.cell? ⟨g, n * 8 + 6, none⟩ = some (.int .u64 x.cap.gen) ∧ W.cell? ⟨g, n * 8 + 7, none⟩ = some (.int .u8 (x.cap.rts : Nat)) from fun W hc => by
    have e1 : ∀ o, W.cell? ⟨b, o, none⟩ = w.cell? ⟨b, o, none⟩ := fun o => hc.cell (p := ⟨b, o, none⟩) lb (by simp)
    have e2 : ∀ o, W.cell? ⟨g, o, none⟩ = w.cell? ⟨g, o, none⟩ := fun o => hc.cell (p := ⟨g, o, none⟩) lg (by simp)
    simp only [e1, e2]
    exact ⟨c3, y0, x0, x1, x2, x3, x4, x5, x6, x7⟩)
  have tok : True := trivial
  obtain ⟨xi, xp, xg, xs, ⟨xk, xx, xe, xr⟩⟩ := x
  simp only at x0 x1 x2 x3 x4 x5 x6 x7 HK
  clear H hh hrow hcx hcy hA hcc hN hn hm hyi hx hy ha hll hb hpI hqI hpl hql
  go_enter Try.func24, Try.ntmps24
  go_wp2_with (first
    | (go_at_call 27; have _t := tok; refine H1.mono ?_; rintro e w ⟨rfl, rfl⟩; clear tok)
    | (go_at_call 27; refine H2.mono ?_; rintro e w ⟨rfl, rfl⟩))
  have HW0 := Lib.hid (Chg.drew (Chg.refl [] w))
  go_region_held3 (fun w' => w'.cell? ⟨b, 3, none⟩ = some (.slice (some ⟨g, 0, none⟩) N cc) ∧ w'.cell? ⟨g, m * 8, none⟩ = some (.int .i64 (yi : Nat)) ∧ w'.cell? ⟨g, n * 8, none⟩ = some (.int .i64 (xi : Nat)) ∧ w'.cell? ⟨g, n * 8 + 1, none⟩ = some (.int .i64 (xp : Nat)) ∧ w'.cell? ⟨g, n * 8 + 2, none⟩ = some (.int .i64 xg) ∧ w'.cell? ⟨g, n * 8 + 3, none⟩ = some (.int .i64 xs) ∧ w'.cell? ⟨g, n * 8 + 4, none⟩ = some (.int .i64 xk) ∧ w'.cell? ⟨g, n * 8 + 5, none⟩ = some (.int .i64 xx) ∧ w'.cell? ⟨g, n * 8 + 6, none⟩ = some (.int .u64 xe) ∧ w'.cell? ⟨g, n * 8 + 7, none⟩ = some (.int .u8 (xr : Nat)))
    (first | go_keep)
    (first | (go_at_call 65; refine (HAB.out _ HW0.out).mono ?_; rintro e w1 ⟨rfl, hc⟩; have HC := Lib.hid (HW0.out.then hc); obtain ⟨r0, r1, r2, r3, r4, r5, r6, r7, r8, r9⟩ := HK.out w1 HC.out; clear hc))
  all_goals
    go_wp2
    go_ret
    exact ⟨rfl, HC.out⟩
end
end Go.Proofs
end
section
namespace Go.Proofs
open Go.RowKit
set_option linter.unusedVariables false
set_option linter.unusedSimpArgs false

/-! ### The document's New, Copy, SameHeld -/
def rf0 (gs slots nodes : Nat) : Rf := ⟨gs, slots, nodes, [], 0⟩
theorem rnew_any (gs slots nodes : Nat) (w : World) : Calls Try.prog 38 #[.int .i64 (gs : Nat), .int .i64 (slots : Nat), .int .i64 (nodes : Nat)] w fun e w' => ∃ b S, e = .returned (ptr b) ∧ RefAt w' b S (rf0 gs slots nodes) ∧ (∀ k ∈ S, w.heap.size ≤ k) ∧ Chg [] w w' := by
  go_enter Try.func38, Try.ntmps38
  go_wp2
  go_ret
  refine ⟨w.heap.size, [w.heap.size], rfl, ⟨.slice none 0 0, Blk.new w 64 _, Row.nil _ _ _, rfl⟩, fun k hk => ?_, (Chg.refl _ _).alloc _⟩
  simp at hk
  omega
def RCopied (r : Rf) (w w' : World) (e : Ending) : Prop := ∃ b S, e = .returned (ptr b) ∧ RefAt w' b S r ∧ (∀ k ∈ S, w.heap.size ≤ k) ∧ Chg [] w w'
set_option maxHeartbeats 3200000 in
set_option maxRecDepth 100000 in
theorem rcopy_any {w : World} {b : Nat} {S : List Nat} {r : Rf} (H : RefAt w b S r) (hl : r.L.length ≤ 10000) : Calls Try.prog 26 #[ptr b] w fun e w' => RCopied r w w' e := by
  obtain ⟨A, cc, hA, hcc, hh, _, _⟩ := H.head
  obtain ⟨c0, c1, c2, c3, c4, lb, _, hR⟩ := hh w (Chg.refl _ _)
  have hne : w.heap.size ≠ b := by omega
  have hbx := Blk.new w 64 #[.int .i64 (r.gs : Nat), .int .i64 (r.slots : Nat), .int .i64 (r.nodes : Nat), .slice A r.L.length cc, .int .i64 (r.came : Nat)]
  have HROW := Lib.hid (fun W (hc : Chg [] w W) => (hh W hc).2.2.2.2.2.2.2)
  have HC0 := Lib.hid ((Chg.refl [] w).alloc (.cells #[.int .i64 (r.gs : Nat), .int .i64 (r.slots : Nat), .int .i64 (r.nodes : Nat), .slice A r.L.length cc, .int .i64 (r.came : Nat)] 64))
  have HFIN := Lib.hid (show ∀ (W : World) (n : Nat) (v : Value), Blk W n 64 #[.int .i64 (r.gs : Nat), .int .i64 (r.slots : Nat), .int .i64 (r.nodes : Nat), v, .int .i64 (r.came : Nat)] → Row W 66 8 v r.L.length (onCells r.L) → RefAt W n (n :: foot v) r from fun W n v h1 h2 => ⟨v, h1, h2, rfl⟩)
  have HC3 := Lib.hid (fun W (hc : Chg [] w W) => ((hh W hc).2.2.2.1))
  obtain ⟨N, hN⟩ : ∃ N, N = r.L.length := ⟨_, rfl⟩
  obtain ⟨G, hG⟩ : ∃ N, N = r.gs := ⟨_, rfl⟩
  obtain ⟨Z, hZ⟩ : ∃ N, N = r.slots := ⟨_, rfl⟩
  obtain ⟨D, hD⟩ : ∃ N, N = r.nodes := ⟨_, rfl⟩
  obtain ⟨M, hM⟩ : ∃ N, N = r.came := ⟨_, rfl⟩
  rw [← hN] at c3 hl HC0 hbx HROW HFIN HC3
  rw [← hG] at c0 HC0 hbx HFIN
  rw [← hZ] at c1 HC0 hbx HFIN
  rw [← hD] at c2 HC0 hbx HFIN
  rw [← hM] at c4 HC0 hbx HFIN
  have HB := Lib.hid hbx
  have HN := Lib.hid hN
  obtain ⟨L, hL⟩ : ∃ L, L = r.L := ⟨_, rfl⟩
  rw [← hL] at HROW HFIN HN
  have k3 := HC3.out _ HC0.out
  clear H hA hcc hh hR hbx hN hG hZ hD hM hL
  go_enter Try.func26, Try.ntmps26
  go_wp2_with (at_builtin; refine wpList_append_on _ (by rfl) _ _ (by rfl) (xs := []) (l := L) (n := N) (m := 0) (m' := N) (by rfl) (by rfl) (Row.nil _ _ _) rfl (HROW.out _ HC0.out) HN.out (by rw [← HN.out]; simp; omega) (by rw [← HN.out]; simp) ?_; intro A2 c2' w4 hr3 hg3 hf3; have hb4 := HB.out.quiet ((Chg.refl [] _).grown hg3 (fun k hk => by simp [Value.ownBlock] at hk)); have l4 := hb4.lt; have f4 := hb4.frozen 3; have x4 := hb4.cell 3; have HB4 := Lib.hid hb4; have HR3 := Lib.hid hr3; have HG3 := Lib.hid hg3; have HF3 := Lib.hid hf3; clear hr3 hg3 hf3 hb4)
  have hc := HC0.out.grown HG3.out (fun k hk => by simp [Value.ownBlock] at hk)
  have hr := HR3.out
  rw [List.nil_append, ← HN.out] at hr
  have hft : ∀ k ∈ foot (.slice A2 N c2'), w.heap.size + 1 ≤ k := fun k hk => by
    rcases HF3.out k hk with h | h
    · cases h
    · simp at h; omega
  have hb5 := HB4.out.set_ 3 (.slice A2 N c2')
  have HQ := Lib.hid (HFIN.out _ _ _ hb5 (hr.far (p := ⟨w.heap.size, 3, none⟩) (fun hk => Nat.not_succ_le_self _ (hft _ hk)) _))
  have HCC := Lib.hid (hc.setCell (p := ⟨w.heap.size, 3, none⟩) (.inr (Nat.le_refl _)) (.slice A2 N c2'))
  have HFT := Lib.hid hft
  clear hc hr hft hb5
  go_wp2
  go_ret
  refine ⟨w.heap.size, _, rfl, HQ.out, fun k hk => ?_, HCC.out⟩
  rcases List.mem_cons.1 hk with rfl | hk
  · exact Nat.le_refl _
  · have := HFT.out k hk; omega
set_option maxHeartbeats 3200000 in
set_option maxRecDepth 100000 in
theorem sameheld_any {w : World} {u v : Value} {l m : List Hl} (hu : Row w 49 5 u l.length (hlCells l)) (hv : Row w 49 5 v m.length (hlCells m)) (h32 : l.length ≤ 1000) {a : Bool} (ha : a = decide (l = m)) : Calls Try.prog 49 #[u, v] w fun e w' => e = .returned (.bool a) ∧ Chg [] w w' := by
  obtain ⟨A, c, rfl, _⟩ := hu.val
  obtain ⟨B, d, rfl, _⟩ := hv.val
  obtain ⟨N, hN⟩ : ∃ N, N = l.length := ⟨_, rfl⟩
  obtain ⟨M, hM⟩ : ∃ N, N = m.length := ⟨_, rfl⟩
  have HN := Lib.hid hN
  have HM := Lib.hid hM
  rw [← hN] at hu h32 ⊢
  rw [← hM] at hv ⊢
  by_cases e0 : N = M
  · subst e0
    have d0 : ((N : Int) != (N : Int)) = false := by simp
    have HU := Lib.hid hu
    have HV := Lib.hid hv
    have HA := Lib.hid ha
    clear hu hv ha hN hM
    go_enter Try.func49, Try.ntmps49
    go_wp2
    go_loopg [5] N (fun gh i wr => ∃ k : Nat, k + gh = N ∧ i = .int .i64 k ∧ Hid (Chg [] w wr ∧ ∀ j, j < k → l[j]? = m[j]?))
    case atStart => exact ⟨0, by omega, rfl, Lib.hid ⟨Chg.refl _ _, fun j hj => by omega⟩⟩
    case round =>
      obtain ⟨k, hk, rfl, HI⟩ := hrel
      by_cases hlt : k < N
      · obtain ⟨x, hx⟩ : ∃ x, l[k]? = some x := ⟨_, List.getElem?_eq_getElem (by rw [← HN.out]; exact hlt)⟩
        obtain ⟨y, hy⟩ : ∃ y, m[k]? = some y := ⟨_, List.getElem?_eq_getElem (by rw [← HM.out]; omega)⟩
        obtain ⟨gu, cu, hvu, _, _, hcu, _, hlu⟩ := (HU.out.chg HI.out.1 (fun _ _ h => by cases h)).form (by omega)
        injection hvu with hvu _ hvc
        obtain ⟨gv, cv, hvv, _, _, hcv, _, hlv⟩ := (HV.out.chg HI.out.1 (fun _ _ h => by cases h)).form (by omega)
        injection hvv with hvv _ hvd
        subst hvu hvv hvc hvd
        obtain ⟨x0, x1, x2, x3, x4⟩ := hlCells_at l k x hx
        obtain ⟨y0, y1, y2, y3, y4⟩ := hlCells_at m k y hy
        have p0 := hcu _ _ x0
        have p1 := hcu _ _ x1
        have p2 := hcu _ _ x2
        have p3 := hcu _ _ x3
        have p4 := hcu _ _ x4
        have q0 := hcv _ _ y0
        have q1 := hcv _ _ y1
        have q2 := hcv _ _ y2
        have q3 := hcv _ _ y3
        have q4 := hcv _ _ y4
        have k0 : (0 : Int) ≤ (k : Int) := by omega
        have k1 : (k : Int) < (N : Int) := by omega
        have HE := Lib.hid (And.intro hx hy)
        by_cases e1 : x = y
        · have hneq : ∀ W, (binOp .neq 49 (.agg x.arr) (.agg y.arr)).run Try.prog W = .ok (.bool false) W := fun W => by rw [neq_hl, decide_eq_true e1]; rfl
          have HNX := Lib.hid (show ∀ j, j < k + 1 → l[j]? = m[j]? from fun j hj => by
            by_cases ej : j = k
            · subst ej
              rw [HE.out.1, HE.out.2, e1]
            · exact HI.out.2 j (by omega))
          have HC := Lib.hid HI.out.1
          obtain ⟨xs, ⟨xk, xx, xe, xr⟩⟩ := x
          obtain ⟨ys, ⟨yk, yx, ye, yr⟩⟩ := y
          simp only [Hl.arr] at hneq p0 p1 p2 p3 p4 q0 q1 q2 q3 q4
          clear hx hy hcu hcv x0 x1 x2 x3 x4 y0 y1 y2 y3 y4 e1 HI
          go_wp2
          go_quiet (fail)
          go_wp2
          go_roundg (N - k - 1)
          case measure => omega
          case rel => exact ⟨k + 1, by omega, by go_num, Lib.hid ⟨HC.out.drewN _, HNX.out⟩⟩
        · have hneq : ∀ W, (binOp .neq 49 (.agg x.arr) (.agg y.arr)).run Try.prog W = .ok (.bool true) W := fun W => by rw [neq_hl, decide_eq_false e1]; rfl
          have HR := Lib.hid (show a = false from by
            rw [HA.out]
            refine decide_eq_false (fun e => e1 ?_)
            have h1 := HE.out.1
            rw [e, HE.out.2] at h1
            exact (Option.some.inj h1).symm)
          have HC := Lib.hid HI.out.1
          obtain ⟨xs, ⟨xk, xx, xe, xr⟩⟩ := x
          obtain ⟨ys, ⟨yk, yx, ye, yr⟩⟩ := y
          simp only [Hl.arr] at hneq p0 p1 p2 p3 p4 q0 q1 q2 q3 q4
          clear hx hy hcu hcv x0 x1 x2 x3 x4 y0 y1 y2 y3 y4 e1 HI
          go_wp2
          go_quiet (fail)
          go_wp2
          go_ret
          exact ⟨by rw [HR.out]; rfl, HC.out.drewN _⟩
      · obtain rfl : k = N := by omega
        have HR := Lib.hid (show a = true from by
          rw [HA.out]
          refine decide_eq_true (List.ext_getElem? fun j => ?_)
          by_cases hj : j < k
          · exact HI.out.2 j hj
          · rw [List.getElem?_eq_none (by rw [← HN.out]; omega), List.getElem?_eq_none (by rw [← HM.out]; omega)])
        have HC := Lib.hid HI.out.1
        go_wp2
        go_ret
        exact ⟨by rw [HR.out]; rfl, HC.out⟩
  · have d0 : ((N : Int) != (M : Int)) = true := by simp; omega
    have hz : a = false := by rw [ha]; exact decide_eq_false (fun e => e0 (by rw [hN, hM, e]))
    subst hz
    clear hu hv ha hN hM
    go_enter Try.func49, Try.ntmps49
    go_wp2
    go_ret
    exact ⟨rfl, Chg.refl _ _⟩
end Go.Proofs
end
section
namespace Go.Proofs
open Go.RowKit
set_option linter.unusedVariables false
set_option linter.unusedSimpArgs false

/-! ### Is at a place the same in both? -/
/-- Is at p the same in o, with the same parent? -/
def Sp.alikeB (s o : Sp) (p : Pt) : Bool := (o.f p).isSome && decide (s.capAt p = o.capAt p) && decide (s.parAt p = o.parAt p)
theorem par_eq (x y : Option Pt) : (decide (ptO x = ptO y) && (x.isSome == y.isSome)) = decide (x = y) := by
  cases x <;> cases y <;> simp [ptO] <;> rfl
section
variable {w : World} {a b : Nat} {S T : List Nat} {s o : Sp}
/-- The capability at a place, where the walk loads it. -/
theorem SpAt.capOf (h : SpAt w a S s) {p : Pt} {n : Nat} (hf : s.f p = some n) : ∃ g cH, (0 : Int) ≤ (n : Int) ∧ (n : Int) < (s.H.length : Int) ∧ s.capAt p = (s.hd n).cap ∧ ∀ W, Chg [] w W →
      W.cell? ⟨a, 4, none⟩ = some (.slice (some ⟨g, 0, none⟩) s.H.length cH) ∧ a < W.heap.size ∧ g < W.heap.size ∧
      W.cell? ⟨g, n * 6 + 2, none⟩ = some (.int .i64 (s.capAt p).kind) ∧ W.cell? ⟨g, n * 6 + 3, none⟩ = some (.int .i64 (s.capAt p).idx) ∧ W.cell? ⟨g, n * 6 + 4, none⟩ = some (.int .u64 (s.capAt p).gen) ∧ W.cell? ⟨g, n * 6 + 5, none⟩ = some (.int .u8 (s.capAt p).rts) := by
  obtain ⟨ht, bm, g, cH, i0, i1, hpl⟩ := h.place (h.wf.slot_of hf) hf
  have hc : s.capAt p = (s.hd n).cap := by unfold Sp.capAt; rw [hf]
  refine ⟨g, cH, i0, i1, hc, fun W hq => ?_⟩
  rw [hc]
  obtain ⟨_, _, c4, la, lg, _, g2, g3, g4, g5⟩ := hpl W hq
  exact ⟨c4, la, lg, g2, g3, g4, g5⟩
set_option maxHeartbeats 3200000 in
set_option maxRecDepth 100000 in
theorem alike_any (h : SpAt w a S s) (k : SpAt w b T o) {p : Pt} {n : Nat} (hf : s.f p = some n) : Calls Try.prog 63 #[ptr a, ptr b, p.val] w fun e w' => e = .returned (.bool (s.alikeB o p)) ∧ Chg [] w w' := by
  have hp := Sp.slot_ok h.wf.gs.2 h.wf.slots.2 (h.wf.slot_of hf)
  have H1 := Lib.hid (fun W (hc : Chg [] w W) => node_any (h.quiet hc) hp)
  have H2 := Lib.hid (fun W (hc : Chg [] w W) => node_any (k.quiet hc) hp)
  have P1 := Lib.hid (fun W (hc : Chg [] w W) => sparent_any (h.quiet hc) hp)
  have P2 := Lib.hid (fun W (hc : Chg [] w W) => sparent_any (k.quiet hc) hp)
  obtain ⟨g1, cH1, i0, i1, hc1, hl1⟩ := h.capOf hf
  have HL1 := Lib.hid hl1
  have HW0 := Lib.hid ((Chg.refl [] w).alloc (.cells #[.int .i64 p.g, .int .i64 p.s] 94))
  have HBX := Lib.hid (fun W (hc : Chg [] (w.alloc (.cells #[.int .i64 p.g, .int .i64 p.s] 94)) W) => ((Blk.new w 94 #[.int .i64 p.g, .int .i64 p.s]).quiet hc))
  rw [hf] at H1
  obtain ⟨N1, hN1⟩ : ∃ N, N = s.H.length := ⟨_, rfl⟩
  rw [← hN1] at i1 HL1
  have hneq := fun W => neq_cap (s.capAt p) (o.capAt p) W
  have HRES := Lib.hid (show s.alikeB o p = ((o.f p).isSome && decide (s.capAt p = o.capAt p) && decide (s.parAt p = o.parAt p)) from rfl)
  obtain ⟨z, hz⟩ : ∃ z, z = s.alikeB o p := ⟨_, rfl⟩
  rw [← hz] at HRES ⊢
  have t1 : True := trivial
  have t2 : True := trivial
  cases hg : o.f p with
  | none =>
    rw [hg] at H2 HRES
    have hz2 : z = false := HRES.out
    subst hz2
    clear h k hf hp hc1 hl1 hN1 hz hg HRES P1 P2 hneq HL1
    go_enter Try.func63, Try.ntmps63
    go_wp2_with (first
      | (go_at_call 52; have _t := t1; refine (H1.out _ HW0.out).mono ?_; rintro e w1 ⟨rfl, hc⟩; have hbx := HBX.out w1 hc; have x0 := hbx.cell 0; have x1 := hbx.cell 1; have lb := hbx.lt; simp only [List.getElem?_toArray, List.getElem?_cons_succ, List.getElem?_cons_zero] at x0 x1; have HC := Lib.hid (HW0.out.then hc); clear hc hbx t1)
      | (go_at_call 52; refine (H2.out _ HC.out).mono ?_; rintro e w2 ⟨rfl, hc⟩; have HC2 := Lib.hid (HC.out.then hc); clear hc))
    go_quiet (fail)
    go_wp2
    go_ret
    exact ⟨rfl, HC2.out.drewN _⟩
  | some m =>
    rw [hg] at H2 HRES
    obtain ⟨g2, cH2, j0, j1, hc2, hl2⟩ := k.capOf hg
    have HL2 := Lib.hid hl2
    obtain ⟨N2, hN2⟩ : ∃ N, N = o.H.length := ⟨_, rfl⟩
    rw [← hN2] at j1 HL2
    obtain ⟨c, hcc⟩ : ∃ c, c = decide (s.capAt p = o.capAt p) := ⟨_, rfl⟩
    rw [← hcc] at hneq HRES
    clear hcc
    obtain ⟨ca, hca⟩ : ∃ c, c = s.capAt p := ⟨_, rfl⟩
    obtain ⟨cb, hcb⟩ : ∃ c, c = o.capAt p := ⟨_, rfl⟩
    rw [← hca] at HL1 hneq
    rw [← hcb] at HL2 hneq
    obtain ⟨a0, a1, a2, a3⟩ := ca
    obtain ⟨b0, b1, b2, b3⟩ := cb
    cases c with
    | false =>
      have hz2 : z = false := HRES.out
      subst hz2
      clear h k hf hp hc1 hl1 hN1 hz hg HRES P1 P2 hca hcb hc2 hl2 hN2
      go_enter Try.func63, Try.ntmps63
      go_wp2_with (first
        | (go_at_call 52; have _t := t1; refine (H1.out _ HW0.out).mono ?_; rintro e w1 ⟨rfl, hc⟩; have hbx := HBX.out w1 hc; have x0 := hbx.cell 0; have x1 := hbx.cell 1; have lb := hbx.lt; simp only [List.getElem?_toArray, List.getElem?_cons_succ, List.getElem?_cons_zero] at x0 x1; have HC := Lib.hid (HW0.out.then hc); clear hc hbx t1)
        | (go_at_call 52; refine (H2.out _ HC.out).mono ?_; rintro e w2 ⟨rfl, hc⟩; have HC2 := Lib.hid (HC.out.then hc); obtain ⟨u4, la, lg, u5, u6, u7, u8⟩ := HL1.out w2 HC2.out; obtain ⟨v4, lb2, lg2, v5, v6, v7, v8⟩ := HL2.out w2 HC2.out; clear hc))
      go_quiet (fail)
      go_wp2
      go_ret
      exact ⟨rfl, HC2.out.drewN _⟩
    | true =>
      have hz2 : z = decide (s.parAt p = o.parAt p) := HRES.out
      rw [← par_eq] at hz2
      obtain ⟨pa, hpa⟩ : ∃ q, q = ptO (s.parAt p) := ⟨_, rfl⟩
      obtain ⟨pb, hpb⟩ : ∃ q, q = ptO (o.parAt p) := ⟨_, rfl⟩
      obtain ⟨ha, hha⟩ : ∃ q, q = (s.parAt p).isSome := ⟨_, rfl⟩
      obtain ⟨hb, hhb⟩ : ∃ q, q = (o.parAt p).isSome := ⟨_, rfl⟩
      rw [← hpa, ← hpb, ← hha, ← hhb] at hz2
      rw [← hpa, ← hha] at P1
      rw [← hpb, ← hhb] at P2
      have hpe := fun W => eql_pt pa pb W
      obtain ⟨e0, he0⟩ : ∃ e0, e0 = decide (pa = pb) := ⟨_, rfl⟩
      rw [← he0] at hpe hz2
      obtain ⟨p1, p2⟩ := pa
      obtain ⟨q1, q2⟩ := pb
      have HZ := Lib.hid hz2
      clear h k hf hp hc1 hl1 hN1 hz hg HRES hca hcb hc2 hl2 hN2 hpa hpb hha hhb he0 hz2
      cases e0 with
      | false =>
        have hz3 : z = false := HZ.out
        subst hz3
        go_enter Try.func63, Try.ntmps63
        go_wp2_with (first
          | (go_at_call 52; have _t := t1; refine (H1.out _ HW0.out).mono ?_; rintro e w1 ⟨rfl, hc⟩; have hbx := HBX.out w1 hc; have x0 := hbx.cell 0; have x1 := hbx.cell 1; have lb := hbx.lt; simp only [List.getElem?_toArray, List.getElem?_cons_succ, List.getElem?_cons_zero] at x0 x1; have HC := Lib.hid (HW0.out.then hc); have HC0 := Lib.hid hc; clear hc hbx t1)
          | (go_at_call 52; refine (H2.out _ HC.out).mono ?_; rintro e w2 ⟨rfl, hc⟩; have HC2 := Lib.hid (HC.out.then hc); have hbx := HBX.out w2 (HC0.out.then hc); have x0 := hbx.cell 0; have x1 := hbx.cell 1; have lb := hbx.lt; simp only [List.getElem?_toArray, List.getElem?_cons_succ, List.getElem?_cons_zero] at x0 x1; have HB2 := Lib.hid hbx; obtain ⟨u4, la, lg, u5, u6, u7, u8⟩ := HL1.out w2 HC2.out; obtain ⟨v4, lb2, lg2, v5, v6, v7, v8⟩ := HL2.out w2 HC2.out; clear hc hbx))
        go_quiet (fail)
        have hw9 := HC2.out.drewN nq
        have HP1 := Lib.hid (P1.out _ hw9)
        have HB9 := Lib.hid (HB2.out.quiet ((Chg.refl _ _).drewN nq))
        have HW9 := Lib.hid hw9
        clear hw9
        go_wp2_with (first
          | (go_at_call 53; have _t := t2; refine HP1.out.mono ?_; rintro e w3 ⟨rfl, hc⟩; have hbx := HB9.out.quiet hc; have y0 := hbx.cell 0; have y1 := hbx.cell 1; have lby := hbx.lt; simp only [List.getElem?_toArray, List.getElem?_cons_succ, List.getElem?_cons_zero] at y0 y1; have HC3 := Lib.hid (HW9.out.then hc); have HP2 := Lib.hid (P2.out _ (HC3.out.alloc (.cells #[.int .i64 p1, .int .i64 p2] 94))); clear hc hbx t2)
          | (go_at_call 53; refine HP2.out.mono ?_; rintro e w4 ⟨rfl, hc⟩; have hbx := (Blk.new w3 94 #[.int .i64 p1, .int .i64 p2]).quiet hc; have z0 := hbx.cell 0; have z1 := hbx.cell 1; have lbz := hbx.lt; simp only [List.getElem?_toArray, List.getElem?_cons_succ, List.getElem?_cons_zero] at z0 z1; have HC4 := Lib.hid ((HC3.out.alloc _).then hc); clear hc hbx))
        go_ret
        exact ⟨rfl, HC4.out.alloc _⟩
      | true =>
        have hz3 : z = (ha == hb) := by have := HZ.out; simpa using this
        subst hz3
        go_enter Try.func63, Try.ntmps63
        go_wp2_with (first
          | (go_at_call 52; have _t := t1; refine (H1.out _ HW0.out).mono ?_; rintro e w1 ⟨rfl, hc⟩; have hbx := HBX.out w1 hc; have x0 := hbx.cell 0; have x1 := hbx.cell 1; have lb := hbx.lt; simp only [List.getElem?_toArray, List.getElem?_cons_succ, List.getElem?_cons_zero] at x0 x1; have HC := Lib.hid (HW0.out.then hc); have HC0 := Lib.hid hc; clear hc hbx t1)
          | (go_at_call 52; refine (H2.out _ HC.out).mono ?_; rintro e w2 ⟨rfl, hc⟩; have HC2 := Lib.hid (HC.out.then hc); have hbx := HBX.out w2 (HC0.out.then hc); have x0 := hbx.cell 0; have x1 := hbx.cell 1; have lb := hbx.lt; simp only [List.getElem?_toArray, List.getElem?_cons_succ, List.getElem?_cons_zero] at x0 x1; have HB2 := Lib.hid hbx; obtain ⟨u4, la, lg, u5, u6, u7, u8⟩ := HL1.out w2 HC2.out; obtain ⟨v4, lb2, lg2, v5, v6, v7, v8⟩ := HL2.out w2 HC2.out; clear hc hbx))
        go_quiet (fail)
        have hw9 := HC2.out.drewN nq
        have HP1 := Lib.hid (P1.out _ hw9)
        have HB9 := Lib.hid (HB2.out.quiet ((Chg.refl _ _).drewN nq))
        have HW9 := Lib.hid hw9
        clear hw9
        go_wp2_with (first
          | (go_at_call 53; have _t := t2; refine HP1.out.mono ?_; rintro e w3 ⟨rfl, hc⟩; have hbx := HB9.out.quiet hc; have y0 := hbx.cell 0; have y1 := hbx.cell 1; have lby := hbx.lt; simp only [List.getElem?_toArray, List.getElem?_cons_succ, List.getElem?_cons_zero] at y0 y1; have HC3 := Lib.hid (HW9.out.then hc); have HP2 := Lib.hid (P2.out _ (HC3.out.alloc (.cells #[.int .i64 p1, .int .i64 p2] 94))); clear hc hbx t2)
          | (go_at_call 53; refine HP2.out.mono ?_; rintro e w4 ⟨rfl, hc⟩; have hbx := (Blk.new w3 94 #[.int .i64 p1, .int .i64 p2]).quiet hc; have z0 := hbx.cell 0; have z1 := hbx.cell 1; have lbz := hbx.lt; simp only [List.getElem?_toArray, List.getElem?_cons_succ, List.getElem?_cons_zero] at z0 z1; have HC4 := Lib.hid ((HC3.out.alloc _).then hc); clear hc hbx))
        go_ret
        exact ⟨rfl, HC4.out.alloc _⟩
end
end Go.Proofs
end
section
namespace Go.Proofs
open Go.RowKit
set_option linter.unusedVariables false
set_option linter.unusedSimpArgs false

/-! ### Are two spaces the same? -/
theorem wf_inv {x : Int} (h : (Lit.int .i64 x).wf = true) : I64 x := by
  simp [Lit.wf, IntKind.min, IntKind.max, IntKind.bits, IntKind.signed] at h
  unfold I64
  omega
set_option maxRecDepth 100000 in
theorem key_inv {v : Value} {l : Lit} (h : keyOf Try.prog 94 v = some l) : ∃ p : Pt, p.ok ∧ v = p.val := by
  obtain ⟨n, hn⟩ := typesSize
  unfold keyOf at h
  rw [Try.underlying94] at h
  simp only [hn] at h
  split at h
  · rw [Option.map_eq_some_iff] at h
    obtain ⟨ls, h, _⟩ := h
    simp only [Program.keyLits, Try.underlying94, Try.underlying3, cellsOf94, cellsOf3] at h
    split at h
    · rename_i hl
      rw [Option.map_eq_some_iff] at h
      obtain ⟨lls, h, _⟩ := h
      obtain ⟨xs, rfl⟩ : ∃ xs, v = .agg xs := by
        cases v <;> simp [Value.cells] at hl
        exact ⟨_, rfl⟩
      simp only [Value.cells] at hl h
      obtain ⟨l, hl'⟩ : ∃ l, l = xs.toList := ⟨_, rfl⟩
      rw [← hl'] at hl h
      match l, hl, hl' with
      | [x, y], _, hl' =>
        simp [List.range_succ, List.mapM_cons] at h
        have hx : ∃ m, x = .int .i64 m ∧ I64 m := by
          cases x <;> simp at h
          rw [Option.bind_eq_some_iff] at h
          obtain ⟨q, h1, _⟩ := h
          split at h1
          · rename_i hw
            obtain ⟨rfl, hw⟩ := hw
            exact ⟨_, rfl, wf_inv hw⟩
          · cases h1
        obtain ⟨m, rfl, hm⟩ := hx
        have hy : ∃ m, y = .int .i64 m ∧ I64 m := by
          rw [Option.bind_eq_some_iff] at h
          obtain ⟨q, _, h⟩ := h
          rw [Option.bind_eq_some_iff] at h
          obtain ⟨q2, h, _⟩ := h
          cases y <;> simp at h
          rw [Option.bind_eq_some_iff] at h
          obtain ⟨q, h1, _⟩ := h
          split at h1
          · rename_i hw
            obtain ⟨rfl, hw⟩ := hw
            exact ⟨_, rfl, wf_inv hw⟩
          · cases h1
        obtain ⟨k, rfl, hk⟩ := hy
        refine ⟨⟨m, k⟩, ⟨hm, hk⟩, ?_⟩
        have : xs = #[.int .i64 m, .int .i64 k] := by
          apply Array.ext'
          rw [← hl']
        rw [this]
    · cases h
  · cases h
theorem len_q {w : World} {h : Nat} {S : List Nat} {c : Tr} (H : TreeAt w h S c) (hl : c.F.length ≤ c.N.length) (hn : c.N.length ≤ 4096) : Calls Try.prog 74 #[ptr h] w fun e w' => e = .returned (.int .i64 ((c.N.length - c.F.length : Nat) : Int)) ∧ ∃ q, w' = w.drewN q := by
  obtain ⟨A, cN, B, cF, _, _, _, _, hh, _, _⟩ := H.head
  obtain ⟨c0, c1, c2, c3, lt, _⟩ := hh w (Chg.refl _ _)
  have e1 : IntKind.i64.wrap ((c.N.length : Int) - (c.F.length : Int)) = ((c.N.length - c.F.length : Nat) : Int) := by rw [show (c.N.length : Int) - (c.F.length : Int) = ((c.N.length - c.F.length : Nat) : Int) by omega]; exact IntWalk.i64_in _ (by omega)
  clear hh H
  go_enter Try.func74, Try.ntmps74
  go_wp2
  go_quiet (fail)
  go_wp2
  go_ret
  exact ⟨by simp only [Ending.returned.injEq, Value.int.injEq, true_and]; first | exact e1 | rfl | simpa using e1, _, rfl⟩
section
variable {w : World} {a b : Nat} {S T : List Nat} {s o : Sp}
theorem slen_q (h : SpAt w a S s) : Calls Try.prog 35 #[ptr a] w fun e w' => e = .returned (.int .i64 (s.t.len : Nat)) ∧ ∃ q, w' = w.drewN q := by
  have HD := derived_any h
  have HL := Lib.hid (fun (ht : Nat) (St : List Nat) (c : Tr) (hT : TreeAt w ht St c) (hS : Sim c s.t) => by
    have h1 := len_q hT hS.count.2 hS.lenN
    rw [hS.count.1] at h1
    exact h1)
  obtain ⟨n, hn⟩ : ∃ n, n = s.t.len := ⟨_, rfl⟩
  rw [← hn] at HL ⊢
  clear h hn
  go_enter Try.func35, Try.ntmps35
  go_wp2_with (first
    | (go_at_call 73; refine HD.mono ?_; rintro e w' ⟨rfl, ht, St, c, rfl, hT, hS⟩; have HX := Lib.hid (HL.out ht St c hT hS); clear hT hS)
    | (go_at_call 74; refine HX.out.mono ?_; rintro e w' ⟨rfl, q, rfl⟩))
  go_ret
  exact ⟨rfl, _, rfl⟩
theorem room_q (h : SpAt w a S s) : Calls Try.prog 36 #[ptr a] w fun e w' => e = .returned (.int .i64 ((s.t.size - s.t.len : Nat) : Int)) ∧ ∃ q, w' = w.drewN q := by
  have HD := derived_any h
  have HL := Lib.hid (fun (ht : Nat) (St : List Nat) (c : Tr) (hT : TreeAt w ht St c) (hS : Sim c s.t) => by
    have h1 := size_any hT
    rw [hS.size] at h1
    exact h1)
  have hle : s.t.len ≤ s.t.size := by have := h.twf.len; omega
  have hsz := h.wf.size.2
  have HS := slen_q h
  obtain ⟨n, hn⟩ : ∃ n, n = s.t.len := ⟨_, rfl⟩
  obtain ⟨m, hm⟩ : ∃ m, m = s.t.size := ⟨_, rfl⟩
  rw [← hn] at HS hle ⊢
  rw [← hm] at HL hle hsz ⊢
  have e1 : IntKind.i64.wrap ((m : Int) - (n : Int)) = ((m - n : Nat) : Int) := by rw [show (m : Int) - (n : Int) = ((m - n : Nat) : Int) by omega]; exact IntWalk.i64_in _ (by omega)
  clear h hn hm hsz hle
  go_enter Try.func36, Try.ntmps36
  go_wp2_with (first
    | (go_at_call 73; refine HD.mono ?_; rintro e w' ⟨rfl, ht, St, c, rfl, hT, hS⟩; have HX := Lib.hid (HL.out ht St c hT hS); clear hT hS)
    | (go_at_call 75; refine HX.out.mono ?_; rintro e w' ⟨rfl, rfl⟩)
    | (go_at_call 35; refine HS.mono ?_; rintro e w' ⟨rfl, q, rfl⟩))
  go_ret
  exact ⟨by first | rfl | (rw [e1]; rfl) | (simp only [Ending.returned.injEq, Value.int.injEq, true_and]; exact e1), _, rfl⟩
end
end Go.Proofs
end
section
namespace Go.Proofs
open Go.RowKit
set_option linter.unusedVariables false
set_option linter.unusedSimpArgs false

/-- Have both as many goroutines, slots, things, room; and is at each place of the first one the same in the other one? -/
structure Sp.SameP (s o : Sp) : Prop where
  gs : s.gs = o.gs
  slots : s.slots = o.slots
  len : s.t.len = o.t.len
  room : s.t.size - s.t.len = o.t.size - o.t.len
  all : ∀ p n, s.f p = some n → s.alikeB o p = true
theorem Chg.grownBy {a b : World} (h : Chg [] a b) : a.grownBy b none := ⟨h.os, h.tape, h.output, h.size, fun i hi _ => h.block i hi (by simp)⟩
theorem Chg.of_grown {a b : World} {r : Nat} {w : World} (h : Chg [] w a) (hg : a.grownBy b (some r)) (hr : w.heap.size ≤ r) : Chg [] w b := h.grown hg (fun k hk => by cases hk; exact .inr hr)
section
variable {w : World} {a b : Nat} {S T : List Nat} {s o : Sp}
/-- What is asked ahead of the places. -/
theorem SpAt.counts (h : SpAt w a S s) : ∃ bm D, (∀ W, Chg [] w W → W.cell? ⟨a, 0, none⟩ = some (.int .i64 (s.gs : Nat)) ∧ W.cell? ⟨a, 1, none⟩ = some (.int .i64 (s.slots : Nat)) ∧ W.cell? ⟨a, 3, none⟩ = some (.map (some bm)) ∧ a < W.heap.size ∧ W.ownsMap Try.prog 94 (plainElem (H := Unit) Try.prog 3) bm (Maps.size D) D) ∧ Plc D s.f := by
  obtain ⟨c, hR, hS, hWF⟩ := h
  obtain ⟨ht, St, bm, VH, hB, hT, ⟨D, m1, m2, m3⟩, hRow, _⟩ := hR
  refine ⟨bm, D, fun W hc => ?_, m3⟩
  have hb := hB.quiet hc
  exact ⟨hb.cell 0, hb.cell 1, hb.cell 3, hb.lt, m1.kept hc.grownBy (by simp)⟩
set_option maxHeartbeats 6400000 in
set_option maxRecDepth 100000 in
theorem same_no (h : SpAt w a S s) (k : SpAt w b T o) (hne : ¬ (s.gs = o.gs ∧ s.slots = o.slots ∧ s.t.len = o.t.len ∧ s.t.size - s.t.len = o.t.size - o.t.len)) : Calls Try.prog 22 #[ptr a, ptr b] w fun e w' => e = .returned (.bool false) ∧ Chg [] w w' := by
  have N1 := fun W (hc : Chg [] w W) => none_is (h.quiet hc)
  have N2 := fun W (hc : Chg [] w W) => none_is (k.quiet hc)
  have L1 := fun q => slen_q (h.quiet ((Chg.refl _ _).drewN q))
  have L2 := fun q => slen_q (k.quiet ((Chg.refl _ _).drewN q))
  have R1 := fun q => room_q (h.quiet ((Chg.refl _ _).drewN q))
  have R2 := fun q => room_q (k.quiet ((Chg.refl _ _).drewN q))
  obtain ⟨bm, D, hh, _⟩ := h.counts
  obtain ⟨bn, E, kk, _⟩ := k.counts
  obtain ⟨c0, c1, _, la, _⟩ := hh w (Chg.refl _ _)
  obtain ⟨d0, d1, _, lb, _⟩ := kk w (Chg.refl _ _)
  have t1 : True := trivial
  obtain ⟨g1, hg1⟩ : ∃ x, x = s.gs := ⟨_, rfl⟩
  obtain ⟨g2, hg2⟩ : ∃ x, x = o.gs := ⟨_, rfl⟩
  obtain ⟨s1, hs1⟩ : ∃ x, x = s.slots := ⟨_, rfl⟩
  obtain ⟨s2, hs2⟩ : ∃ x, x = o.slots := ⟨_, rfl⟩
  obtain ⟨l1, hl1⟩ : ∃ x, x = s.t.len := ⟨_, rfl⟩
  obtain ⟨l2, hl2⟩ : ∃ x, x = o.t.len := ⟨_, rfl⟩
  obtain ⟨r1, hr1⟩ : ∃ x, x = s.t.size - s.t.len := ⟨_, rfl⟩
  obtain ⟨r2, hr2⟩ : ∃ x, x = o.t.size - o.t.len := ⟨_, rfl⟩
  rw [← hr1] at R1 hne
  rw [← hr2] at R2 hne
  rw [← hl1] at L1 hne
  rw [← hl2] at L2 hne
  rw [← hg1] at c0 hne
  rw [← hg2] at d0 hne
  rw [← hs1] at c1 hne
  rw [← hs2] at d1 hne
  have NN1 := N1 w (Chg.refl _ _)
  have NN2 := N2 w (Chg.refl _ _)
  clear hh kk h k hg1 hg2 hs1 hs2 hl1 hl2 hr1 hr2 N1 N2
  by_cases e1 : g1 = g2
  · have b1 : ((g1 : Int) != (g2 : Int)) = false := by simp [e1]
    by_cases e2 : s1 = s2
    · have b2 : ((s1 : Int) != (s2 : Int)) = false := by simp [e2]
      by_cases e3 : l1 = l2
      · have b3 : ((l1 : Int) != (l2 : Int)) = false := by simp [e3]
        have b4 : ((r1 : Int) != (r2 : Int)) = true := by
          have : r1 ≠ r2 := fun e4 => hne ⟨e1, e2, e3, e4⟩
          simp; omega
        clear e1 e2 e3 hne
        go_enter Try.func22, Try.ntmps22
        go_wp2_with (first
          | (go_at_call 51; have _t := t1; refine NN1.mono ?_; rintro e w' ⟨rfl, rfl⟩; clear t1)
          | (go_at_call 51; refine NN2.mono ?_; rintro e w' ⟨rfl, rfl⟩))
        go_quiet ((first
          | (go_at_call 35; with_reducible exact Calls.quiet_of (L1 _))
          | (go_at_call 35; with_reducible exact Calls.quiet_of (L2 _))
          | (go_at_call 36; with_reducible exact Calls.quiet_of (R1 _))
          | (go_at_call 36; with_reducible exact Calls.quiet_of (R2 _))))
        go_wp2
        go_ret
        exact ⟨rfl, (Chg.refl _ _).drewN _⟩
      · have b3 : ((l1 : Int) != (l2 : Int)) = true := by simp; omega
        clear e1 e2 e3 hne
        go_enter Try.func22, Try.ntmps22
        go_wp2_with (first
          | (go_at_call 51; have _t := t1; refine NN1.mono ?_; rintro e w' ⟨rfl, rfl⟩; clear t1)
          | (go_at_call 51; refine NN2.mono ?_; rintro e w' ⟨rfl, rfl⟩))
        go_quiet ((first
          | (go_at_call 35; with_reducible exact Calls.quiet_of (L1 _))
          | (go_at_call 35; with_reducible exact Calls.quiet_of (L2 _))))
        go_wp2
        go_ret
        exact ⟨rfl, (Chg.refl _ _).drewN _⟩
    · have b2 : ((s1 : Int) != (s2 : Int)) = true := by simp; omega
      clear e1 e2 hne
      go_enter Try.func22, Try.ntmps22
      go_wp2_with (first
        | (go_at_call 51; have _t := t1; refine NN1.mono ?_; rintro e w' ⟨rfl, rfl⟩; clear t1)
        | (go_at_call 51; refine NN2.mono ?_; rintro e w' ⟨rfl, rfl⟩))
      go_quiet (fail)
      go_wp2
      go_ret
      exact ⟨rfl, (Chg.refl _ _).drewN _⟩
  · have b1 : ((g1 : Int) != (g2 : Int)) = true := by simp; omega
    clear e1 hne
    go_enter Try.func22, Try.ntmps22
    go_wp2_with (first
      | (go_at_call 51; have _t := t1; refine NN1.mono ?_; rintro e w' ⟨rfl, rfl⟩; clear t1)
      | (go_at_call 51; refine NN2.mono ?_; rintro e w' ⟨rfl, rfl⟩))
    go_quiet (fail)
    go_wp2
    go_ret
    exact ⟨rfl, (Chg.refl _ _).drewN _⟩
end
end Go.Proofs
end
section
namespace Go.Proofs
open Go.RowKit
set_option linter.unusedVariables false
set_option linter.unusedSimpArgs false
section
variable {w : World} {a b : Nat} {S T : List Nat} {s o : Sp}
/-- Those places that are no longer to come are the same in both. -/
def Gone (s o : Sp) (left : Lit → Bool) : Prop := ∀ p n, s.f p = some n → left (kl p) = false → s.alikeB o p = true
theorem sameKey_kl {p q : Pt} (hp : p.ok) (hq : q.ok) : (kl p).sameKey (kl q) = decide (p = q) := by
  have h1 := key_of hp
  have h2 := key_of hq
  have hinj := fun h => kl_inj hp hq h
  by_cases e : p = q
  · subst e
    rw [decide_eq_true rfl]
    generalize kl p = l at h1
    exact WideAt.sameKey_self (kl_key' h1)
  · rw [decide_eq_false e]
    exact Maps.sameKey_ne (fun h => e (hinj h))
/-- What Same answers. -/
def SameOut (s o : Sp) (w : World) (e : Ending) (w' : World) : Prop := ∃ x, e = .returned (.bool x) ∧ (x = true ↔ ∀ p n, s.f p = some n → s.alikeB o p = true) ∧ Chg [] w w'
set_option maxHeartbeats 6400000 in
set_option maxRecDepth 100000 in
theorem same_yes (h : SpAt w a S s) (k : SpAt w b T o) (hne : s.gs = o.gs ∧ s.slots = o.slots ∧ s.t.len = o.t.len ∧ s.t.size - s.t.len = o.t.size - o.t.len) : Calls Try.prog 22 #[ptr a, ptr b] w fun e w' => SameOut s o w e w' := by
  have HA := Lib.hid (fun W (hc : Chg [] w W) (p : Pt) (n : Nat) (hf : s.f p = some n) => alike_any (h.quiet hc) (k.quiet hc) hf)
  have HOK := Lib.hid (fun (p : Pt) (n : Nat) (hf : s.f p = some n) => Sp.slot_ok h.wf.gs.2 h.wf.slots.2 (h.wf.slot_of hf))
  have N1 := fun W (hc : Chg [] w W) => none_is (h.quiet hc)
  have N2 := fun W (hc : Chg [] w W) => none_is (k.quiet hc)
  have L1 := fun q => slen_q (h.quiet ((Chg.refl _ _).drewN q))
  have L2 := fun q => slen_q (k.quiet ((Chg.refl _ _).drewN q))
  have R1 := fun q => room_q (h.quiet ((Chg.refl _ _).drewN q))
  have R2 := fun q => room_q (k.quiet ((Chg.refl _ _).drewN q))
  obtain ⟨bm, D, hh, hplc⟩ := h.counts
  obtain ⟨bn, E, kk, _⟩ := k.counts
  obtain ⟨c0, c1, c3, la, _⟩ := hh w (Chg.refl _ _)
  have HH := Lib.hid (fun W (hc : Chg [] w W) => (hh W hc).2.2.2.2)
  have HPLC := Lib.hid hplc
  obtain ⟨d0, d1, _, lb, _⟩ := kk w (Chg.refl _ _)
  have t1 : True := trivial
  obtain ⟨g1, hg1⟩ : ∃ x, x = s.gs := ⟨_, rfl⟩
  obtain ⟨g2, hg2⟩ : ∃ x, x = o.gs := ⟨_, rfl⟩
  obtain ⟨s1, hs1⟩ : ∃ x, x = s.slots := ⟨_, rfl⟩
  obtain ⟨s2, hs2⟩ : ∃ x, x = o.slots := ⟨_, rfl⟩
  obtain ⟨l1, hl1⟩ : ∃ x, x = s.t.len := ⟨_, rfl⟩
  obtain ⟨l2, hl2⟩ : ∃ x, x = o.t.len := ⟨_, rfl⟩
  obtain ⟨r1, hr1⟩ : ∃ x, x = s.t.size - s.t.len := ⟨_, rfl⟩
  obtain ⟨r2, hr2⟩ : ∃ x, x = o.t.size - o.t.len := ⟨_, rfl⟩
  rw [← hr1] at R1 hne
  rw [← hr2] at R2 hne
  rw [← hl1] at L1 hne
  rw [← hl2] at L2 hne
  rw [← hg1] at c0 hne
  rw [← hg2] at d0 hne
  rw [← hs1] at c1 hne
  rw [← hs2] at d1 hne
  have NN1 := N1 w (Chg.refl _ _)
  have NN2 := N2 w (Chg.refl _ _)
  clear hh kk h k hplc hg1 hg2 hs1 hs2 hl1 hl2 hr1 hr2 N1 N2
  obtain ⟨rfl, rfl, rfl, rfl⟩ := hne
  have b1 : ((g1 : Int) != (g1 : Int)) = false := by simp
  have b2 : ((s1 : Int) != (s1 : Int)) = false := by simp
  have b3 : ((l1 : Int) != (l1 : Int)) = false := by simp
  have b4 : ((r1 : Int) != (r1 : Int)) = false := by simp
  go_enter Try.func22, Try.ntmps22
  go_wp2_with (first
    | (go_at_call 51; have _t := t1; refine NN1.mono ?_; rintro e w' ⟨rfl, rfl⟩; clear t1)
    | (go_at_call 51; refine NN2.mono ?_; rintro e w' ⟨rfl, rfl⟩))
  go_quiet ((first
    | (go_at_call 35; with_reducible exact Calls.quiet_of (L1 _))
    | (go_at_call 35; with_reducible exact Calls.quiet_of (L2 _))
    | (go_at_call 36; with_reducible exact Calls.quiet_of (R1 _))
    | (go_at_call 36; with_reducible exact Calls.quiet_of (R2 _))))
  have hw1 := (Chg.refl [] w).drewN nq
  have HOWN := Lib.hid (HH.out _ hw1)
  have HW1 := Lib.hid hw1
  clear hw1
  go_wp2_with (at_range; refine wpList_range_own _ rfl _ 70 rfl 94 3 law94 Try.underlying70 (plainElem (H := Unit) Try.prog 3) bm (Maps.size D) D rfl HOWN.out ?_; intro w0 hrg0 hg0 hs0)
  go_frame
  have hrg1 : w0.ranges Try.prog 94 (plainElem (H := Unit) Try.prog 3) bm w.heap.size (Maps.size D) D (Maps.has D) (Maps.size D) := hrg0
  have HRG := Lib.hid hrg1
  have HW2 := Lib.hid (HW1.out.grown hg0 (fun k hk => by cases hk))
  clear hrg0 hrg1 hg0 hs0
  go_loopw [5] (fun _ wr => ∃ (left : Lit → Bool) (cnt : Nat), Hid (wr.ranges Try.prog 94 (plainElem (H := Unit) Try.prog 3) bm w.heap.size (Maps.size D) D left cnt ∧ Chg [] w wr ∧ Gone s o left)) (fun _ wr => wr.rangeLeft bm w.heap.size)
  case atStart => exact ⟨_, _, Lib.hid ⟨HRG.out, HW2.out, fun p n hf hl => by
    have := (HPLC.out p (HOK.out p n hf)).1
    rw [hf, hl] at this
    cases this⟩⟩
  case round =>
    obtain ⟨left, cnt, HI⟩ := hrel
    go_wp2_with (at_next; refine wpList_next_ranges _ rfl _ rfl 94 law94 (plainElem (H := Unit) Try.prog 3) Pt.val (fun x : Int => .int .i64 x) (fun key l hk => by obtain ⟨p, _, rfl⟩ := key_inv hk; exact ⟨p, rfl⟩) (fun v y hv => by obtain ⟨c, rfl, _⟩ := plainElem_int_inv Try.underlying3 hv; exact ⟨c, rfl⟩) bm w.heap.size (Maps.size D) D left cnt rfl HI.out.1 ?_ ?_)
    · intro _ hl0
      have HG := Lib.hid (show ∀ p n, s.f p = some n → s.alikeB o p = true from fun p n hf => HI.out.2.2 p n hf (hl0 _))
      clear hl0
      go_wp2
      go_ret
      exact ⟨true, rfl, ⟨fun _ => HG.out, fun _ => rfl⟩, HI.out.2.1⟩
    · intro p c l y1 y2 w1 cnt1 hkey hlk hv hat hrg1 hlt hg1 hs1 hen
      obtain ⟨n, hpo, hn, hll⟩ : ∃ n, p.ok ∧ s.f p = some n ∧ l = kl p := by
        obtain ⟨p', hp', e⟩ := key_inv hkey
        have e2 : p = p' := by
          obtain ⟨x1, x2⟩ := p
          obtain ⟨y1, y2⟩ := p'
          simp [Pt.val] at e
          obtain ⟨rfl, rfl⟩ := e
          rfl
        subst e2
        have h1 := key_of hp'
        rw [hkey] at h1
        have h2 : l = kl p := Option.some.inj h1
        have h3 := (HPLC.out p hp').1
        rw [← h2, Maps.has_true_of_atKey hat] at h3
        obtain ⟨n, hn⟩ := Option.isSome_iff_exists.1 h3.symm
        exact ⟨n, hp', hn, h2⟩
      have hch : Chg [] w w1 := HI.out.2.1.of_grown hg1 (Nat.le_refl _)
      have HCH := Lib.hid hch
      have HAL := Lib.hid (HA.out _ (hch.alloc (.cells #[.int .i64 p.g, .int .i64 p.s] 94)) p n hn)
      have HR1 := Lib.hid hrg1
      have HLT := Lib.hid hlt
      have HGN := Lib.hid (show s.alikeB o p = true → Gone s o (fun z => left z && !z.sameKey l) from fun hal q m hq hz => by
        by_cases e : q = p
        · rw [e]; exact hal
        · refine HI.out.2.2 q m hq ?_
          change (left (kl q) && !(kl q).sameKey l) = false at hz
          rw [hll, sameKey_kl (HOK.out q m hq) hpo, decide_eq_false e] at hz
          simpa using hz)
      have HNO := Lib.hid (show s.alikeB o p = false → (false = true ↔ ∀ p n, s.f p = some n → s.alikeB o p = true) from fun hal => ⟨fun h => (by cases h), fun h => by rw [h p n hn] at hal; cases hal⟩)
      obtain ⟨z, hz⟩ : ∃ z, z = s.alikeB o p := ⟨_, rfl⟩
      rw [← hz] at HAL HGN HNO
      clear hkey hlk hv hat hrg1 hlt hg1 hs1 hll hch hz hn hpo
      cases z with
      | false =>
        go_wp2_with (go_at_call 63; refine HAL.out.mono ?_; rintro e w2 ⟨rfl, hc⟩; have HC2 := Lib.hid ((HCH.out.alloc _).then hc); clear hc)
        go_ret
        exact ⟨false, rfl, HNO.out (by simp), HC2.out⟩
      | true =>
        go_wp2_with (go_at_call 63; refine HAL.out.mono ?_; rintro e w2 ⟨rfl, hc⟩; have HC2 := Lib.hid ((HCH.out.alloc _).then hc); have HRR := Lib.hid ((HR1.out.alloc (.cells #[.int .i64 p.g, .int .i64 p.s] 94)).kept hc.grownBy (by simp) (by simp)); clear hc)
        go_round
        case rel =>
          exact ⟨_, _, _, _, _, _, _, _, _, _, _, ⟨_, cnt1, Lib.hid ⟨HRR.out, HC2.out, HGN.out (by simp)⟩⟩, rfl⟩
        case measure => rw [HRR.out.left_eq, HI.out.1.left_eq]; exact HLT.out
open Classical in
/-- Are they the same? -/
theorem ssame_any (h : SpAt w a S s) (k : SpAt w b T o) {x : Bool} (hx : x = true ↔ s.SameP o) : Calls Try.prog 22 #[ptr a, ptr b] w fun e w' => e = .returned (.bool x) ∧ Chg [] w w' := by
  by_cases hne : s.gs = o.gs ∧ s.slots = o.slots ∧ s.t.len = o.t.len ∧ s.t.size - s.t.len = o.t.size - o.t.len
  · refine (same_yes h k hne).mono ?_
    rintro e w' ⟨y, h1, h2, h3⟩
    have : y = x := by
      rw [Bool.eq_iff_iff, h2, hx]
      exact ⟨fun hh => ⟨hne.1, hne.2.1, hne.2.2.1, hne.2.2.2, hh⟩, fun hh => hh.all⟩
    exact ⟨by rw [h1, this], h3⟩
  · have : x = false := by
      cases x with
      | false => rfl
      | true => have hh := hx.1 rfl; exact absurd ⟨hh.gs, hh.slots, hh.len, hh.room⟩ hne
    subst this
    exact same_no h k hne
/-- Of no space. -/
theorem same_none {p q : Option Addr} (h : NoS w (.pointer p)) (k : NoS w (.pointer q)) : Calls Try.prog 22 #[.pointer p, .pointer q] w fun e w' => e = .returned (.bool true) ∧ w' = w := by
  have N1 := none_no h
  have N2 := none_no k
  have t1 : True := trivial
  have t2 : True := trivial
  clear h k
  go_enter Try.func22, Try.ntmps22
  go_wp2_with (first
    | (go_at_call 51; have _t := t1; refine N1.mono ?_; rintro e w' ⟨rfl, rfl⟩; clear t1)
    | (go_at_call 51; have _t := t2; refine N1.mono ?_; rintro e w' ⟨rfl, rfl⟩; clear t2)
    | (go_at_call 51; refine N2.mono ?_; rintro e w' ⟨rfl, rfl⟩))
  go_ret
  exact ⟨rfl, rfl⟩
end
end Go.Proofs
end
section
namespace Go.Proofs
open Go.RowKit
set_option linter.unusedVariables false
set_option linter.unusedSimpArgs false

/-! ### The code's space and the document's say the same -/
def parId (s : Sp) (id : Nat → Nat) (n : Nat) : Nat := match s.t.par n with | some q => id q | none => 0
def ent (s : Sp) (id : Nat → Nat) (n : Nat) : On := ⟨id n, parId s id n, (s.hd n).p.g, (s.hd n).p.s, (s.hd n).cap⟩
structure Rel (s : Sp) (r : Rf) (id : Nat → Nat) : Prop where
  gs : r.gs = s.gs
  slots : r.slots = s.slots
  nodes : r.nodes = s.t.size
  nodup : (r.L.map On.id).Nodup
  mem : ∀ x, x ∈ r.L ↔ ∃ n, s.t.there n = true ∧ x = ent s id n
  inj : ∀ n m, s.t.there n = true → s.t.there m = true → id n = id m → n = m
  pos : ∀ n, s.t.there n = true → 1 ≤ id n ∧ id n ≤ r.came
theorem nodup_len2 {a b : List Nat} (ha : a.Nodup) (hb : b.Nodup) (h : ∀ x, x ∈ a ↔ x ∈ b) : a.length = b.length := ((List.perm_ext_iff_of_nodup ha hb).2 h).length_eq
theorem nodup_map {f : Nat → Nat} {l : List Nat} (hl : l.Nodup) (hf : ∀ n ∈ l, ∀ m ∈ l, f n = f m → n = m) : (l.map f).Nodup := by
  induction l with
  | nil => exact List.nodup_nil
  | cons a l ih =>
    obtain ⟨h1, h2⟩ := List.nodup_cons.1 hl
    rw [List.map_cons, List.nodup_cons]
    refine ⟨fun hm => ?_, ih h2 (fun n hn m hm => hf n (by simp [hn]) m (by simp [hm]))⟩
    obtain ⟨b, hb, e⟩ := List.mem_map.1 hm
    exact h1 (hf b (by simp [hb]) a (by simp) e ▸ hb)
theorem nodup_filt {l : List Nat} (p : Nat → Bool) (hl : l.Nodup) : (l.filter p).Nodup := List.filter_sublist.nodup hl
theorem Fo.len_filt (t : Fo) : t.len = ((List.range t.size).filter t.there).length := List.countP_eq_length_filter
section
variable {s : Sp} {r : Rf} {id : Nat → Nat}
theorem Rel.len (h : Rel s r id) (ht : s.t.WF) : r.L.length = s.t.len := by
  have hf : ∀ n, n ∈ (List.range s.t.size).filter s.t.there ↔ s.t.there n = true := fun n => by
    rw [List.mem_filter, List.mem_range]
    exact ⟨fun h => h.2, fun h => ⟨ht.lt n h, h⟩⟩
  have key := nodup_len2 h.nodup (nodup_map (f := id) (nodup_filt s.t.there (List.nodup_range (n := s.t.size))) (fun n hn m hm => h.inj n m ((hf n).1 hn) ((hf m).1 hm))) (fun x => by
    rw [List.mem_map, List.mem_map]
    constructor
    · rintro ⟨y, hy, rfl⟩
      obtain ⟨n, hn, rfl⟩ := (h.mem y).1 hy
      exact ⟨n, (hf n).2 hn, rfl⟩
    · rintro ⟨n, hn, rfl⟩
      exact ⟨ent s id n, (h.mem _).2 ⟨n, (hf n).1 hn, rfl⟩, rfl⟩)
  rw [List.length_map, List.length_map] at key
  rw [key, s.t.len_filt]
theorem Rel.ent (h : Rel s r id) {n : Nat} (hn : s.t.there n = true) : ent s id n ∈ r.L := (h.mem _).2 ⟨n, hn, rfl⟩
theorem Rel.rts (h : Rel s r id) (hw : s.WF) : ∀ x ∈ r.L, x.cap.rts < 256 := fun x hx => by
  obtain ⟨n, hn, rfl⟩ := (h.mem x).1 hx
  exact (hw.at_ n hn).2.2.2.2.2.2
/-- One entry alone has an id. -/
theorem Rel.uniq (h : Rel s r id) {x y : On} (hx : x ∈ r.L) (hy : y ∈ r.L) (e : x.id = y.id) : x = y := by
  obtain ⟨n, hn, rfl⟩ := (h.mem x).1 hx
  obtain ⟨m, hm, rfl⟩ := (h.mem y).1 hy
  rw [h.inj n m hn hm e]
theorem atP_iff {p : Pt} {x : On} : atP p x = true ↔ x.g = p.g ∧ x.s = p.s := by
  unfold atP
  rw [Bool.and_eq_true, decide_eq_true_iff, decide_eq_true_iff]
theorem ent_at {n : Nat} {p : Pt} : atP p (Go.Proofs.ent s id n) = true ↔ (s.hd n).p = p := by
  rw [atP_iff]
  obtain ⟨g, q⟩ := p
  show (s.hd n).p.g = g ∧ (s.hd n).p.s = q ↔ _
  constructor
  · rintro ⟨h1, h2⟩
    cases hh : (s.hd n).p with | mk a b => rw [hh] at h1 h2; simp only at h1 h2; rw [h1, h2]
  · intro h; rw [h]; exact ⟨rfl, rfl⟩
/-- What Find comes upon. -/
theorem Rel.atO (h : Rel s r id) (hw : s.WF) (p : Pt) : r.atO p = (s.f p).map (Go.Proofs.ent s id) := by
  rcases r.fI_cases p with ⟨hf, _⟩ | ⟨x, hf, _, hlt, hp⟩
  · rw [hf]
    cases hs : s.f p with
    | none => rfl
    | some n =>
      obtain ⟨h1, h2⟩ := hw.back p n hs
      obtain ⟨k, hk⟩ := List.getElem?_of_mem (h.ent h1)
      have hkl := (List.getElem?_eq_some_iff.1 hk).1
      have hge : r.L.length ≤ r.fd p := by
        unfold Rf.atO at hf
        exact List.getElem?_eq_none_iff.1 hf
      exfalso
      have key : ∀ (l : List On), Go.Proofs.ent s id n ∈ l → fnd (atP p) l < l.length := by
        intro l
        induction l with
        | nil => intro h; cases h
        | cons y l ih =>
          intro hm
          unfold fnd
          by_cases hy : atP p y = true
          · rw [if_pos hy]; simp
          · rw [if_neg hy]
            rcases List.mem_cons.1 hm with e | hm
            · rw [← e] at hy; exact absurd (ent_at.2 h2) hy
            · simp [ih hm]
      have := key r.L (h.ent h1)
      unfold Rf.fd at hge
      omega
  · rw [hf]
    obtain ⟨n, hn, rfl⟩ := (h.mem x).1 (List.mem_of_getElem? hf)
    have := (hw.at_ n hn).2.1
    rw [ent_at.1 hp] at this
    rw [this]
    rfl
theorem Rf.has_at (r : Rf) (p : Pt) : r.has p = (r.atO p).isSome := by
  unfold Rf.has Rf.atO
  by_cases hlt : r.fd p < r.L.length
  · rw [decide_eq_true hlt, List.getElem?_eq_getElem hlt]; rfl
  · rw [decide_eq_false hlt, List.getElem?_eq_none (by omega)]; rfl
theorem Rel.has (h : Rel s r id) (hw : s.WF) (p : Pt) : r.has p = (s.f p).isSome := by
  rw [r.has_at, h.atO hw]
  cases s.f p <;> rfl
theorem Rel.slot (h : Rel s r id) (p : Pt) : r.slot p = s.slot p := by unfold Rf.slot Sp.slot; rw [h.gs, h.slots]
theorem Rel.fullE (h : Rel s r id) (hw : s.WF) (p : Pt) : r.fullE p = s.fullE p := by
  unfold Rf.fullE Sp.fullE
  rw [h.slot, h.has hw]
  cases s.slot p <;> cases (s.f p).isSome <;> simp [firstB]
theorem Rel.freeE (h : Rel s r id) (hw : s.WF) (p : Pt) : r.freeE p = s.freeE p := by
  unfold Rf.freeE Sp.freeE
  rw [h.slot, h.has hw]
  cases s.slot p <;> cases (s.f p).isSome <;> simp [firstB]
theorem Rel.moveE (h : Rel s r id) (hw : s.WF) (p q : Pt) : r.moveE p q = s.moveE p q := by
  unfold Rf.moveE
  rw [h.fullE hw, h.freeE hw]
  unfold Sp.fullE Sp.freeE Sp.moveE
  cases s.slot p <;> cases (s.f p).isSome <;> cases s.slot q <;> cases (s.f q).isSome <;> simp [firstB]
theorem Rel.bad0 (h : Rel s r id) (rts : Nat) : r.bad 0 rts = false := by
  refine bad_none (fun j y _ hy e => ?_)
  obtain ⟨n, hn, rfl⟩ := (h.mem y).1 (List.mem_of_getElem? hy)
  have := (h.pos n hn).1
  have e2 : id n = 0 := e
  omega
theorem Rel.room (h : Rel s r id) (ht : s.t.WF) : (if r.nodes ≤ r.L.length then (3 : Int) else 0) = if decide (s.t.len < s.t.size) then 0 else 3 := by
  rw [h.nodes, h.len ht]
  by_cases hlt : s.t.len < s.t.size
  · rw [if_neg (by omega), decide_eq_true hlt, if_pos rfl]
  · rw [if_pos (by omega), decide_eq_false hlt, if_neg (by simp)]
theorem Rel.rootE (h : Rel s r id) (hw : s.WF) (ht : s.t.WF) (p : Pt) (c : Cp) : r.putE 0 p c = s.rootE p c := by
  unfold Rf.putE
  rw [h.bad0, h.freeE hw, h.room ht]
  unfold Sp.freeE Sp.rootE
  cases s.slot p <;> cases (s.f p).isSome <;> cases mayB c <;> cases decide (s.t.len < s.t.size) <;> simp [firstB]
theorem Rel.bad (h : Rel s r id) {n : Nat} (hn : s.t.there n = true) (rts : Nat) : r.bad (id n) rts = !amongP rts (s.hd n).cap.rts := by
  cases ha : amongP rts (s.hd n).cap.rts with
  | true =>
    refine bad_none (fun j y _ hy e => ?_)
    have hm := List.mem_of_getElem? hy
    rw [h.uniq hm (h.ent hn) e]
    exact ha
  | false =>
    obtain ⟨k, hk⟩ := List.getElem?_of_mem (h.ent hn)
    exact bad_at hk rfl ha
theorem Rel.idAt (h : Rel s r id) (hw : s.WF) {p : Pt} {n : Nat} (hf : s.f p = some n) : r.idAt p = id n := by
  unfold Rf.idAt
  rw [h.atO hw, hf]
  rfl
theorem Rel.deriveE (h : Rel s r id) (hw : s.WF) (ht : s.t.WF) (p q : Pt) (c : Cp) : r.deriveE p q c = s.deriveE p q c := by
  unfold Rf.deriveE
  rw [h.fullE hw]
  cases hf : s.f p with
  | none =>
    have hne := Sp.full_none hf
    rw [if_neg hne]
    unfold Sp.fullE Sp.deriveE
    rw [hf]
    cases s.slot p <;> simp [firstB]
  | some n =>
    have hs := hw.slot_of hf
    rw [Sp.full_some hs hf, if_pos rfl, h.idAt hw hf]
    unfold Rf.putE
    rw [h.bad (hw.back p n hf).1, h.freeE hw, h.room ht]
    unfold Sp.freeE Sp.deriveE Sp.amongB
    rw [hf, hs]
    simp only [Option.isSome_some]
    cases s.slot q <;> cases (s.f q).isSome <;> cases mayB c <;> cases amongP c.rts (s.hd n).cap.rts <;> cases decide (s.t.len < s.t.size) <;> simp [firstB]
theorem Rel.caps (h : Rel s r id) (hw : s.WF) (g : Int) : r.caps g = s.caps g := by
  have key : ∀ k, r.capsTo g k = s.capsTo g k := by
    intro k
    induction k with
    | zero => rfl
    | succ k ih =>
      show r.capsTo g k ++ r.heldO g k = s.capsTo g k ++ s.held g k
      rw [ih]
      congr 1
      unfold Rf.heldO Sp.held
      rw [h.atO hw]
      cases s.f ⟨g, (k : Nat)⟩ <;> rfl
  unfold Rf.caps Sp.caps
  rw [key, h.slots]
theorem Rel.fndP (h : Rel s r id) {n : Nat} (hn : s.t.there n = true) (x : On) (hx : x.par = id n) : ∃ k, r.L[k]? = some (Go.Proofs.ent s id n) ∧ (∀ (j : Nat) (z : On), j < k → r.L[j]? = some z → z.id ≠ x.par) := by
  obtain ⟨k, hk⟩ := List.getElem?_of_mem (h.ent hn)
  refine ⟨k, hk, fun j z hj hz e => ?_⟩
  have hkl := (List.getElem?_eq_some_iff.1 hk).1
  have e2 := h.uniq (List.mem_of_getElem? hz) (h.ent hn) (by rw [e, hx]; rfl)
  subst e2
  have h1 : (r.L.map On.id)[j]? = (r.L.map On.id)[k]? := by rw [List.getElem?_map, List.getElem?_map, hz, hk]
  have := (List.getElem?_inj (by rw [List.length_map]; omega) h.nodup).1 h1
  omega
theorem Rel.parAt (h : Rel s r id) (hw : s.WF) (ht : s.t.WF) (p : Pt) : r.parAt p = s.parAt p := by
  unfold Rf.parAt Sp.parAt
  rw [h.atO hw]
  cases hf : s.f p with
  | none => rfl
  | some n =>
    have hn := (hw.back p n hf).1
    simp only [Option.map_some]
    cases hp : s.t.par n with
    | none =>
      simp only
      rw [fnd_none (fun j y _ hy => ?_)]
      · rw [List.getElem?_eq_none (Nat.le_refl _)]; rfl
      · obtain ⟨m, hm, rfl⟩ := (h.mem y).1 (List.mem_of_getElem? hy)
        unfold ofP
        rw [decide_eq_false_iff_not]
        show ¬ id m = parId s id n
        unfold parId
        rw [hp]
        simp only
        have := (h.pos m hm).1
        omega
    | some q =>
      simp only
      have hq := ht.up hn hp
      obtain ⟨k, hk, hlt⟩ := h.fndP hq (Go.Proofs.ent s id n) (show parId s id n = id q by unfold parId; rw [hp])
      rw [fnd_first (k := k) (x := Go.Proofs.ent s id q) (fun j z hj hz => ?_) hk ?_, hk]
      · rfl
      · unfold ofP
        rw [decide_eq_true_iff]
        show id q = parId s id n
        unfold parId
        rw [hp]
      · unfold ofP
        rw [decide_eq_false_iff_not]
        exact hlt j z hj hz
/-- Who is above one. -/
theorem Rel.chain (h : Rel s r id) (ht : s.t.WF) : ∀ {n : Nat}, s.t.there n = true → ∃ A : List Nat, Ab r.L (Go.Proofs.ent s id n) (A.map (Go.Proofs.ent s id)) ∧ A.Nodup ∧ ∀ a, a ∈ A ↔ Anc s.t a n := by
  obtain ⟨d, hd⟩ := ht.depth
  have key : ∀ D n, d n < D → s.t.there n = true → ∃ A : List Nat, Ab r.L (Go.Proofs.ent s id n) (A.map (Go.Proofs.ent s id)) ∧ A.Nodup ∧ ∀ a, a ∈ A ↔ Anc s.t a n := by
    intro D
    induction D with
    | zero => intro n hn; omega
    | succ D ih =>
      intro n hD hn
      cases hp : s.t.par n with
      | none =>
        exact ⟨[], Ab.nil (show parId s id n = 0 by unfold parId; rw [hp]), List.nodup_nil, fun a => ⟨(fun hh => nomatch hh), fun hh => (hh.root ht hp).elim⟩⟩
      | some q =>
        have hq := ht.up hn hp
        obtain ⟨A, h1, h2, h3⟩ := ih q (by have := hd n q hn hp; omega) hq
        have hpi : parId s id n = id q := by unfold parId; rw [hp]
        obtain ⟨k, hk, hlt⟩ := h.fndP hq (Go.Proofs.ent s id n) hpi
        have hkid : n ∈ s.t.kids q := by have := ht.mem n hn; rw [hp] at this; exact this
        refine ⟨q :: A, Ab.cons (show parId s id n ≠ 0 by rw [hpi]; have := (h.pos q hq).1; omega) hlt hk (show id q = parId s id n from hpi.symm) h1, List.nodup_cons.2 ⟨fun hm => ((h3 q).1 hm).irrefl ht, h2⟩, fun a => ⟨fun hm => ?_, fun ha => ?_⟩⟩
        · rcases List.mem_cons.1 hm with rfl | hm
          · exact .kid hkid
          · exact .step hkid ((h3 a).1 hm)
        · rcases ha.last ht hp with rfl | ha
          · simp
          · exact List.mem_cons_of_mem _ ((h3 a).2 ha)
  intro n hn
  exact key (d n + 1) n (by omega) hn
theorem Rel.chainL (h : Rel s r id) (ht : s.t.WF) {n : Nat} (hn : s.t.there n = true) : ∃ l, Ab r.L (Go.Proofs.ent s id n) l ∧ l.length ≤ r.L.length ∧ ∀ m, s.t.there m = true → (id m ∈ l.map On.id ↔ Anc s.t m n) := by
  obtain ⟨A, h1, h2, h3⟩ := h.chain ht hn
  refine ⟨_, h1, ?_, fun m hm => ?_⟩
  · rw [h.len ht, s.t.len_filt, List.length_map]
    refine h2.length_le_of_subset (fun a ha => ?_)
    have hat := (((h3 a).1 ha).there ht).1
    rw [List.mem_filter, List.mem_range]
    exact ⟨ht.lt a hat, hat⟩
  · rw [List.map_map, List.mem_map]
    constructor
    · rintro ⟨a, ha, e⟩
      have hat := (((h3 a).1 ha).there ht).1
      rw [← h.inj a m hat hm e]
      exact (h3 a).1 ha
    · intro ha
      exact ⟨m, (h3 m).2 ha, rfl⟩
end
end Go.Proofs
end
