import Derived.Test.YtfbelpbfmafjdaaArGS
namespace Go.Proofs
open Go.RowKit
set_option linter.unusedVariables false

def bA : ByteArray := ⟨#[97]⟩
def bB : ByteArray := ⟨#[98]⟩
def bC : ByteArray := ⟨#[99]⟩
def bO : ByteArray := ⟨#[]⟩
def kt0 : Tab ByteArray := ⟨2, 1, [], [], 0⟩
def kt1 : Tab ByteArray := ⟨2, 1, [⟨1, true, bA⟩], [], 0⟩
def kt2 : Tab ByteArray := ⟨2, 1, [⟨1, true, bA⟩, ⟨1, true, bB⟩], [], 0⟩
def kt3 : Tab ByteArray := ⟨2, 1, [⟨2, false, bO⟩, ⟨1, true, bB⟩], [0], 0⟩
def kt4 : Tab ByteArray := ⟨2, 1, [⟨2, true, bC⟩, ⟨1, true, bB⟩], [], 0⟩
theorem bC_is : (bC.toList == [99]) = true := by kernel_rfl
theorem kw0 : kt0.WF := Tab.WF.new (by decide) (by decide) (by decide) (by rw [topG_val]; decide)
theorem kw1 : kt1.WF := kw0.put (z := bO) (by decide) bA
theorem kw2 : kt2.WF := kw1.put (z := bO) (by decide) bB
theorem kw3 : kt3.WF := kw2.drop (z := bO) (i := 0) (s := ⟨1, true, bA⟩) rfl rfl
theorem kw4 : kt4.WF := kw3.put (z := bO) (by decide) bC

theorem k_new (w : World) : Calls Try.prog 28 #[.int .i64 2, .int .u64 1] w fun e w' => e = .returned (.tuple #[.pointer (some ⟨w.heap.size, 0, none⟩), .int .i64 0]) ∧
    TabAt kS w' w.heap.size [w.heap.size] kt0 ∧ Chg [] w w' := new_ok_S 2 1 (by decide)
theorem k_put1 {w : World} {g : Nat} {S : List Nat} (h : TabAt kS w g S kt0) :
    Calls Try.prog 29 #[.pointer (some ⟨g, 0, none⟩), .string bA] w fun e w' => e = .returned (.tuple #[.agg #[.int .i64 0, .int .u64 1], .int .i64 0]) ∧ Turns kS g S kt1 w w' := put_ok_S h kw0 (by decide) bA
theorem k_put2 {w : World} {g : Nat} {S : List Nat} (h : TabAt kS w g S kt1) :
    Calls Try.prog 29 #[.pointer (some ⟨g, 0, none⟩), .string bB] w fun e w' => e = .returned (.tuple #[.agg #[.int .i64 1, .int .u64 1], .int .i64 0]) ∧ Turns kS g S kt2 w w' := put_ok_S h kw1 (by decide) bB
theorem k_put3 {w : World} {g : Nat} {S : List Nat} (h : TabAt kS w g S kt2) :
    Calls Try.prog 29 #[.pointer (some ⟨g, 0, none⟩), .string bC] w fun e w' => e = .returned (.tuple #[.agg #[.int .i64 0, .int .u64 0], .int .i64 3]) ∧ Chg [] w w' := put_full_S h kw2 (by decide) bC
theorem k_drop {w : World} {g : Nat} {S : List Nat} (h : TabAt kS w g S kt2) :
    Calls Try.prog 30 #[.pointer (some ⟨g, 0, none⟩), .agg #[.int .i64 0, .int .u64 1]] w fun e w' => e = .returned (.int .i64 0) ∧ Turns kS g S kt3 w w' := drop_yes_S h kw2 (i := 0) (q := 1) (by decide)
theorem k_put4 {w : World} {g : Nat} {S : List Nat} (h : TabAt kS w g S kt3) :
    Calls Try.prog 29 #[.pointer (some ⟨g, 0, none⟩), .string bC] w fun e w' => e = .returned (.tuple #[.agg #[.int .i64 0, .int .u64 2], .int .i64 0]) ∧ Turns kS g S kt4 w w' := put_ok_S h kw3 (by decide) bC
theorem k_get1 {w : World} {g : Nat} {S : List Nat} (h : TabAt kS w g S kt4) :
    Calls Try.prog 31 #[.pointer (some ⟨g, 0, none⟩), .agg #[.int .i64 0, .int .u64 1]] w fun e w' => e = .returned (.tuple #[.string bO, .int .i64 11]) ∧ Chg [] w w' := get_no_S h kw4 0 1 (by decide) (by decide) (by decide)
theorem k_get2 {w : World} {g : Nat} {S : List Nat} (h : TabAt kS w g S kt4) :
    Calls Try.prog 31 #[.pointer (some ⟨g, 0, none⟩), .agg #[.int .i64 0, .int .u64 2]] w fun e w' => e = .returned (.tuple #[.string bC, .int .i64 0]) ∧ Chg [] w w' := get_yes_S h kw4 (i := 0) (q := 2) (s := ⟨2, true, bC⟩) (by decide) rfl
/-- A block of the caller's own stays apart from the table's. -/
theorem apart_next {S S1 : List Nat} {B H : Nat} (hB : B ∉ S) (hH : B < H) (hsub : ∀ k ∈ S1, k ∈ S ∨ H ≤ k) : B ∉ S1 := fun hm => by
  rcases hsub _ hm with h | h
  · exact hB h
  · omega
theorem TabAt.apart {α : Type} {κ : Kind α} {w : World} {g : Nat} {S : List Nat} {t : Tab α} (h : TabAt κ w g S t) {B : Nat} (hB : w.heap.size ≤ B) : B ∉ S := fun hm => by have := h.lt _ hm; omega
theorem sub_below {S S1 : List Nat} {B H : Nat} (hS : ∀ k ∈ S, B ≤ k) (hH : B ≤ H) (hsub : ∀ k ∈ S1, k ∈ S ∨ H ≤ k) : ∀ k ∈ S1, B ≤ k := fun k hk => by
  rcases hsub k hk with h | h
  · exact hS k h
  · omega

set_option maxRecDepth 100000 in
set_option maxHeartbeats 1600000 in
theorem known_any (w : World) : Calls Try.prog 10 #[] w fun e w' => e = .returned (.bool true) ∧ Below w.heap.size w w' := by
  go_enter Try.func10, Try.ntmps10
  go_wp2_with (fail)
  refine (k_new _).mono ?_
  rintro e w1 ⟨rfl, hT0, hc0⟩
  obtain ⟨g, hg⟩ : ∃ g, g = w.heap.size := ⟨_, rfl⟩
  rw [← hg] at hT0 ⊢
  have Hg := Lib.hid hg
  have H0 := Lib.hid hc0
  clear hg hc0
  go_wp2_with (fail)
  refine (k_put1 hT0).mono ?_
  rintro e w2 ⟨rfl, S1, hT1, hs1, hc1⟩
  have n3 := hT1.apart (Nat.le_refl w2.heap.size)
  have z1 := hc1.size
  go_wp2_with (fail)
  refine (k_put2 (hT1.quiet ((Chg.refl _ _).alloc _))).mono ?_
  rintro e w3 ⟨rfl, S2, hT2, hs2, hc2⟩
  have y3 := (Blk.new w2 36 #[.int .i64 0, .int .u64 1]).chg hc2 n3
  have m3 := apart_next n3 (by simp) hs2
  have m5 := hT2.apart (Nat.le_refl w3.heap.size)
  have l3 := y3.lt
  go_wp2_with (fail)
  refine (k_put3 (hT2.quiet ((Chg.refl _ _).alloc _))).mono ?_
  rintro e w4 ⟨rfl, hc3⟩
  have x3 := (y3.alloc _).chg hc3 (by simp)
  have x5 := (Blk.new w3 36 #[.int .i64 1, .int .u64 1]).chg hc3 (by simp)
  have hT2' := hT2.quiet (((Chg.refl _ _).alloc _).then hc3)
  have p3 := x3.cell 0
  have p4 := x3.cell 1
  have l4 := x3.lt
  have l5 := x5.lt
  go_wp2_with (fail)
  refine (k_drop (hT2'.quiet ((Chg.refl _ _).alloc _))).mono ?_
  rintro e w5 ⟨rfl, S5, hT3, hs5, hc5⟩
  have v3 := (x3.alloc _).chg hc5 m3
  have v5 := (x5.alloc _).chg hc5 m5
  have o3 := apart_next m3 (by simp; omega) hs5
  have o5 := apart_next m5 (by simp; omega) hs5
  go_wp2_with (fail)
  refine (k_put4 hT3).mono ?_
  rintro e w6 ⟨rfl, S6, hT4, hs6, hc6⟩
  have u3 := v3.chg hc6 o3
  have u5 := v5.chg hc6 o5
  have r3 := u3.cell 0
  have r4 := u3.cell 1
  have l6 := u3.lt
  go_wp2_with (fail)
  refine (k_get1 (hT4.quiet ((Chg.refl _ _).alloc _))).mono ?_
  rintro e w7 ⟨rfl, hc7⟩
  have hT5 := hT4.quiet (((Chg.refl _ _).alloc _).then hc7)
  have t3 := (u3.alloc _).chg hc7 (by simp)
  have t5 := (u5.alloc _).chg hc7 (by simp)
  have t10 := (Blk.new w6 36 #[.int .i64 0, .int .u64 2]).chg hc7 (by simp)
  have a0 := t10.cell 0
  have a1 := t10.cell 1
  go_wp2_with (fail)
  refine (k_get2 hT5).mono ?_
  rintro e w8 ⟨rfl, hc8⟩
  have q3 := t3.chg hc8 (by simp)
  have q5 := t5.chg hc8 (by simp)
  have q10 := t10.chg hc8 (by simp)
  have d0 := q3.cell 0
  have d1 := q3.cell 1
  have d2 := q5.cell 0
  have d3 := q5.cell 1
  have d4 := q10.cell 0
  have d5 := q10.cell 1
  have hS1 : ∀ k ∈ S1, w.heap.size ≤ k := sub_below (S := [g]) (by rw [Hg.out]; simp) H0.out.size hs1
  have hS2 : ∀ k ∈ S2, w.heap.size ≤ k := sub_below hS1 (by have := H0.out.size; simp; omega) hs2
  have zz : w.heap.size ≤ w4.heap.size := by have := H0.out.size; have := hc2.size; have := hc3.size; simp at *; omega
  have hS5 : ∀ k ∈ S5, w.heap.size ≤ k := sub_below hS2 (by simp; omega) hs5
  have e0 : Chg [g] w w2 := (Chg.any H0.out).trans hc1 (fun _ h => .inl h)
  have B2 : Below w.heap.size w w2 := e0.below (by rw [Hg.out]; simp) (Nat.le_refl _)
  have B3 : Below w.heap.size w2 w3 := ((Chg.refl [] _).alloc _).any.trans hc2 (fun _ h => .inl h) |>.below hS1 (by have := B2.size; omega)
  have B4 : Below w.heap.size w3 w4 := (((Chg.refl [] _).alloc _).then hc3).below (fun _ h => by cases h) (by have := B2.size; have := B3.size; omega)
  have B5 : Below w.heap.size w4 w5 := ((Chg.refl [] _).alloc _).any.trans hc5 (fun _ h => .inl h) |>.below hS2 zz
  have B6 : Below w.heap.size w5 w6 := hc6.below hS5 (by have := B5.size; omega)
  have B8 : Below w.heap.size w6 w8 := (((Chg.refl [] _).alloc _).then (hc7.then hc8)).below (fun _ h => by cases h) (by have := B5.size; have := B6.size; omega)
  have HB := Lib.hid (B2.trans (B3.trans (B4.trans (B5.trans (B6.trans B8)))))
  clear B2 B3 B4 B5 B6 B8 hS1 hS2 hS5 zz e0 p3 p4 r3 r4 a0 a1 z1 l3 l4 l5 l6
  go_wp2_with (fail)
  go_ret
  exact ⟨by show Ending.returned (.bool (bC.toList == [99])) = _; rw [bC_is], HB.out⟩
end Go.Proofs
