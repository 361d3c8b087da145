import Derived.Shelf.Bits.Mul64
import Derived.Test.YtojpllmghfafjaaProg
import Derived.Test.YtojpllmghfafjaaM7
import Derived.Test.YtojpllmghfafjaaM4
section
namespace Go.Proofs
open Go.Shelf
def Try.lays264_ren : Go.Shelf.Ren := ⟨fun | 264 => 37 | n => n, fun | 53 => 24 | 46 => 85 | n => n, fun | n => n⟩
theorem Try.lays264 : Go.Proofs.Lays.n264 Try.prog Try.lays264_ren := {
  mixed := by kernel_rfl
  f264 := Try.func37.trans (congrArg some (by kernel_rfl))
  t46 := Try.underlying85
  a46 := Try.isAgg85
  z46 := Try.sizeOf85
  v46 := Try.zeroValue85
  t53 := Try.underlying24
  a53 := Try.isAgg24
  z53 := Try.sizeOf24
  v53 := Try.zeroValue24 }
open Go.RowKit Go.Lib in
theorem Try.bits_Mul64 (x y : Nat) (hx : x < 18446744073709551616) (hy : y < 18446744073709551616) (w : World) :
    Calls Try.prog 37 #[.int .u64 x, .int .u64 y] w fun e w' => e = .returned (.tuple #[.int .u64 ((x * y / 18446744073709551616 : Nat) : Int), .int .u64 ((x * y % 18446744073709551616 : Nat) : Int)]) ∧ w' = w := Any.bits_Mul64 Try.lays264 x y hx hy w
end Go.Proofs
end
section
namespace Go.Proofs
open Go.RowKit
set_option linter.unusedVariables false

theorem mul64_fits (x y : Int) (hx : 0 ≤ x) (hy : 0 ≤ y) (hx1 : x < 18446744073709551616) (hy1 : y < 18446744073709551616) (h : x * y < 18446744073709551616) (w : World) :
    Calls Try.prog 37 #[.int .u64 x, .int .u64 y] w fun e w' => e = .returned (.tuple #[.int .u64 0, .int .u64 (mulN x y)]) ∧ w = w' := by
  obtain ⟨a, rfl⟩ := Int.eq_ofNat_of_zero_le hx
  obtain ⟨b, rfl⟩ := Int.eq_ofNat_of_zero_le hy
  have hp : a * b < 18446744073709551616 := by have e : ((a * b : Nat) : Int) = (a : Int) * b := Int.natCast_mul a b; omega
  refine (Try.bits_Mul64 a b (by omega) (by omega) w).mono fun e w' ⟨he, hw⟩ => ⟨?_, hw.symm⟩
  rw [he, Nat.div_eq_of_lt hp, Nat.mod_eq_of_lt hp]
  unfold mulN; rw [if_pos h]; simp

def Over (w : World) (e : Ending) (w' : World) : Prop := ∃ h l : Int, (h == 0) = false ∧ e = .returned (.tuple #[.int .u64 h, .int .u64 l]) ∧ w = w'
theorem mul64_over (x y : Int) (hx : 0 ≤ x) (hy : 0 ≤ y) (hx1 : x < 18446744073709551616) (hy1 : y < 18446744073709551616) (h : ¬ x * y < 18446744073709551616) (w : World) :
    Calls Try.prog 37 #[.int .u64 x, .int .u64 y] w (Over w) := by
  obtain ⟨a, rfl⟩ := Int.eq_ofNat_of_zero_le hx
  obtain ⟨b, rfl⟩ := Int.eq_ofNat_of_zero_le hy
  have hp : 18446744073709551616 ≤ a * b := by have e : ((a * b : Nat) : Int) = (a : Int) * b := Int.natCast_mul a b; omega
  refine (Try.bits_Mul64 a b (by omega) (by omega) w).mono fun e w' ⟨he, hw⟩ => ⟨_, _, ?_, he, hw.symm⟩
  have : 0 < a * b / 18446744073709551616 := Nat.div_pos hp (by decide)
  simp; omega

set_option maxHeartbeats 1000000 in
theorem mul_exact_fits (x y : Int) (hx : 0 ≤ x) (hy : 0 ≤ y) (hx1 : x < 18446744073709551616) (hy1 : y < 18446744073709551616) (h : x * y < 18446744073709551616) (w : World) :
    Calls Try.prog 33 #[.int .u64 x, .int .u64 y] w fun e w' => e = .returned (.agg #[.int .u64 (mulN x y), .bool true]) ∧ Below w.heap.size w w' := by
  have hm := m56

  go_enter Try.func33, Try.ntmps33
  go_wp2_with (first | (go_at_call 37; refine (mul64_fits x y hx hy hx1 hy1 h _).mono ?_; rintro e w9 ⟨rfl, rfl⟩; clear h) | (go_at_call 56; refine (exact_number _ _ _ _).mono ?_; rintro e w' ⟨rfl, hb⟩; obtain ⟨hc, hf⟩ := bcell hb; simp only [World.size_alloc] at hc hf hb))
  have hz : w.heap.size + 1 < w'.heap.size := by have := hb.size; simp at this; omega
  have q0 : w'.cell? ⟨w.heap.size, 0, none⟩ = some (.int .u64 0) := by rw [hc _ _ (by omega)]; simp [go_sem]
  have q1 : w'.cell? ⟨w.heap.size, 1, none⟩ = some (.bool false) := by rw [hc _ _ (by omega)]; simp [go_sem]
  have c0 := World.cell?_setCell_same' w' ⟨w.heap.size, 0, none⟩ (.int .u64 (mulN x y)) (by rw [q0]; rfl)
  have c1 := World.cell?_setCell_same' (w'.setCell ⟨w.heap.size, 0, none⟩ (.int .u64 (mulN x y))) ⟨w.heap.size, 1, none⟩ (.bool true) (by simp [go_sem, q1])
  simp [bodyPost, results, Try.results33, go_sem, c0, c1, Result.andThen]
  exact ((((Below.refl _ _).alloc (Nat.le_refl _) _).alloc (by simp) _).trans (hb.mono (by omega))).setCell (Nat.le_refl _) _ |>.setCell (Nat.le_refl _) _

set_option maxHeartbeats 1000000 in
theorem mul_exact_over (x y : Int) (hx : 0 ≤ x) (hy : 0 ≤ y) (hx1 : x < 18446744073709551616) (hy1 : y < 18446744073709551616) (h : ¬ x * y < 18446744073709551616) (w : World) :
    Calls Try.prog 33 #[.int .u64 x, .int .u64 y] w fun e w' => e = .returned (.agg #[.int .u64 (0), .bool false]) ∧ Below w.heap.size w w' := by
  have hm := m55

  go_enter Try.func33, Try.ntmps33
  go_wp2_with (first | (go_at_call 37; refine (mul64_over x y hx hy hx1 hy1 h _).mono ?_; rintro e w9 ⟨hi, lo, hh, rfl, rfl⟩; clear h) | (go_at_call 55; refine (exact_nearest _ _ _ _).mono ?_; rintro e w' ⟨rfl, hb⟩; obtain ⟨hc, hf⟩ := bcell hb; simp only [World.size_alloc] at hc hf hb))
  have hz : w.heap.size + 1 < w'.heap.size := by have := hb.size; simp at this; omega
  have q0 : w'.cell? ⟨w.heap.size, 0, none⟩ = some (.int .u64 0) := by rw [hc _ _ (by omega)]; simp [go_sem]
  have q1 : w'.cell? ⟨w.heap.size, 1, none⟩ = some (.bool false) := by rw [hc _ _ (by omega)]; simp [go_sem]
  have c0 := World.cell?_setCell_same' w' ⟨w.heap.size, 0, none⟩ (.int .u64 (0)) (by rw [q0]; rfl)
  have c1 := World.cell?_setCell_same' (w'.setCell ⟨w.heap.size, 0, none⟩ (.int .u64 (0))) ⟨w.heap.size, 1, none⟩ (.bool false) (by simp [go_sem, q1])
  simp [bodyPost, results, Try.results33, go_sem, c0, c1, Result.andThen]
  exact ((((Below.refl _ _).alloc (Nat.le_refl _) _).alloc (by simp) _).trans (hb.mono (by omega))).setCell (Nat.le_refl _) _ |>.setCell (Nat.le_refl _) _


set_option maxHeartbeats 1000000 in
theorem add_fits (x y : Int) (hx : 0 ≤ x) (hy : 0 ≤ y) (hx1 : x < 18446744073709551616) (hy1 : y < 18446744073709551616) (h : x + y < 18446744073709551616) (w : World) :
    Calls Try.prog 20 #[.int .u64 x, .int .u64 y] w fun e w' => e = .returned (.tuple #[.int .u64 (addN x y), .bool true]) ∧ Below w.heap.size w w' := by
  have hC := fun w => sum_exact_fits x y hx hy hx1 hy1 h w
  clear h
  go_enter Try.func20, Try.ntmps20
  go_wp2_with (go_at_call 31; refine (hC _).mono ?_; clear hC; rintro e w' ⟨rfl, hb⟩)
  go_quiet (fail)
  go_wp2
  go_ret2
  exact ⟨rfl, below_drewN (hb.alloc hb.size _) _⟩

set_option maxHeartbeats 1000000 in
theorem add_over (x y : Int) (hx : 0 ≤ x) (hy : 0 ≤ y) (hx1 : x < 18446744073709551616) (hy1 : y < 18446744073709551616) (h : ¬ x + y < 18446744073709551616) (w : World) :
    Calls Try.prog 20 #[.int .u64 x, .int .u64 y] w fun e w' => e = .returned (.tuple #[.int .u64 (0), .bool false]) ∧ Below w.heap.size w w' := by
  have hC := fun w => sum_exact_over x y hx hy hx1 hy1 h w
  clear h
  go_enter Try.func20, Try.ntmps20
  go_wp2_with (go_at_call 31; refine (hC _).mono ?_; clear hC; rintro e w' ⟨rfl, hb⟩)
  go_quiet (fail)
  go_wp2
  go_ret2
  exact ⟨rfl, below_drewN (hb.alloc hb.size _) _⟩

set_option maxHeartbeats 1000000 in
theorem sub_fits (x y : Int) (hx : 0 ≤ x) (hy : 0 ≤ y) (hx1 : x < 18446744073709551616) (hy1 : y < 18446744073709551616) (h : y ≤ x) (w : World) :
    Calls Try.prog 21 #[.int .u64 x, .int .u64 y] w fun e w' => e = .returned (.tuple #[.int .u64 (x - y), .bool true]) ∧ Below w.heap.size w w' := by
  have hC := fun w => dif_exact_fits x y hx hy hx1 hy1 h w
  clear h
  go_enter Try.func21, Try.ntmps21
  go_wp2_with (go_at_call 32; refine (hC _).mono ?_; clear hC; rintro e w' ⟨rfl, hb⟩)
  go_quiet (fail)
  go_wp2
  go_ret2
  exact ⟨rfl, below_drewN (hb.alloc hb.size _) _⟩

set_option maxHeartbeats 1000000 in
theorem sub_over (x y : Int) (hx : 0 ≤ x) (hy : 0 ≤ y) (hx1 : x < 18446744073709551616) (hy1 : y < 18446744073709551616) (h : x < y) (w : World) :
    Calls Try.prog 21 #[.int .u64 x, .int .u64 y] w fun e w' => e = .returned (.tuple #[.int .u64 (0), .bool false]) ∧ Below w.heap.size w w' := by
  have hC := fun w => dif_exact_over x y hx hy hx1 hy1 h w
  clear h
  go_enter Try.func21, Try.ntmps21
  go_wp2_with (go_at_call 32; refine (hC _).mono ?_; clear hC; rintro e w' ⟨rfl, hb⟩)
  go_quiet (fail)
  go_wp2
  go_ret2
  exact ⟨rfl, below_drewN (hb.alloc hb.size _) _⟩

set_option maxHeartbeats 1000000 in
theorem mul_fits (x y : Int) (hx : 0 ≤ x) (hy : 0 ≤ y) (hx1 : x < 18446744073709551616) (hy1 : y < 18446744073709551616) (h : x * y < 18446744073709551616) (w : World) :
    Calls Try.prog 22 #[.int .u64 x, .int .u64 y] w fun e w' => e = .returned (.tuple #[.int .u64 (mulN x y), .bool true]) ∧ Below w.heap.size w w' := by
  have hC := fun w => mul_exact_fits x y hx hy hx1 hy1 h w
  clear h
  go_enter Try.func22, Try.ntmps22
  go_wp2_with (go_at_call 33; refine (hC _).mono ?_; clear hC; rintro e w' ⟨rfl, hb⟩)
  go_quiet (fail)
  go_wp2
  go_ret2
  exact ⟨rfl, below_drewN (hb.alloc hb.size _) _⟩

set_option maxHeartbeats 1000000 in
theorem mul_over (x y : Int) (hx : 0 ≤ x) (hy : 0 ≤ y) (hx1 : x < 18446744073709551616) (hy1 : y < 18446744073709551616) (h : ¬ x * y < 18446744073709551616) (w : World) :
    Calls Try.prog 22 #[.int .u64 x, .int .u64 y] w fun e w' => e = .returned (.tuple #[.int .u64 (0), .bool false]) ∧ Below w.heap.size w w' := by
  have hC := fun w => mul_exact_over x y hx hy hx1 hy1 h w
  clear h
  go_enter Try.func22, Try.ntmps22
  go_wp2_with (go_at_call 33; refine (hC _).mono ?_; clear hC; rintro e w' ⟨rfl, hb⟩)
  go_quiet (fail)
  go_wp2
  go_ret2
  exact ⟨rfl, below_drewN (hb.alloc hb.size _) _⟩

theorem num_add (x y : Int) (hx : 0 ≤ x) (hy : 0 ≤ y) (hx1 : x < 18446744073709551616) (hy1 : y < 18446744073709551616) (w : World) :
    Calls Try.prog 20 #[.int .u64 x, .int .u64 y] w fun e w' => e = .returned (.tuple #[.int .u64 (addN x y), .bool (addF x y)]) ∧ Below w.heap.size w w' := by
  by_cases h : x + y < 18446744073709551616
  · rw [show addF x y = true from decide_eq_true h]; exact add_fits x y hx hy hx1 hy1 h w
  · rw [show addF x y = false from decide_eq_false h, show addN x y = 0 from if_neg h]; exact add_over x y hx hy hx1 hy1 h w
theorem num_sub (x y : Int) (hx : 0 ≤ x) (hy : 0 ≤ y) (hx1 : x < 18446744073709551616) (hy1 : y < 18446744073709551616) (w : World) :
    Calls Try.prog 21 #[.int .u64 x, .int .u64 y] w fun e w' => e = .returned (.tuple #[.int .u64 (subN x y), .bool (subF x y)]) ∧ Below w.heap.size w w' := by
  by_cases h : x < y
  · rw [show subF x y = false from decide_eq_false (by omega), show subN x y = 0 from if_pos h]; exact sub_over x y hx hy hx1 hy1 h w
  · rw [show subF x y = true from decide_eq_true (by omega), show subN x y = x - y from if_neg h]; exact sub_fits x y hx hy hx1 hy1 (by omega) w
theorem num_mul (x y : Int) (hx : 0 ≤ x) (hy : 0 ≤ y) (hx1 : x < 18446744073709551616) (hy1 : y < 18446744073709551616) (w : World) :
    Calls Try.prog 22 #[.int .u64 x, .int .u64 y] w fun e w' => e = .returned (.tuple #[.int .u64 (mulN x y), .bool (mulF x y)]) ∧ Below w.heap.size w w' := by
  by_cases h : x * y < 18446744073709551616
  · rw [show mulF x y = true from decide_eq_true h]; exact mul_fits x y hx hy hx1 hy1 h w
  · rw [show mulF x y = false from decide_eq_false h, show mulN x y = 0 from if_neg h]; exact mul_over x y hx hy hx1 hy1 h w


end Go.Proofs
end
section
namespace Go.Proofs
open Go.RowKit
set_option linter.unusedVariables false
set_option linter.unusedSimpArgs false

/-! ### The map of operations -/
abbrev fnV (n : Nat) : Value := .func (.func n) #[] #[]
def fnD (n : Nat) : DataW Unit := .lit (.int .i64 n)
def fnElem : Value → Option (DataW Unit × List MemPlace)
  | .func (.func n) xs ys => if xs.size = 0 ∧ ys.size = 0 then some (fnD n, []) else none
  | _ => none
theorem fnElem_V (n : Nat) : fnElem (fnV n) = some (fnD n, []) := rfl
theorem fnElem_inv {v : Value} {y : DataW Unit × List MemPlace} (h : fnElem v = some y) : ∃ n, v = fnV n ∧ y = (fnD n, []) := by
  unfold fnElem at h
  split at h
  · rename_i n xs ys
    split at h
    · rename_i hx
      refine ⟨n, ?_, (Option.some.inj h).symm⟩
      rw [Array.eq_empty_of_size_eq_zero hx.1, Array.eq_empty_of_size_eq_zero hx.2]
    · cases h
  · cases h
theorem fnD_inj {f g : Nat} (h : fnD f = fnD g) : f = g := by
  simp [fnD] at h
  omega
def fnsL : List (UInt8 × Nat) := [(2, 20), (3, 21), (4, 22)]
abbrev fnsD : DataW Unit := .map (fnsL.map fun e => (keyL e.1, fnD e.2))
def FnsAt (w : World) (m : Nat) : Prop := w.ownsMap Try.prog 43 fnElem m 3 fnsD
theorem FnsAt.below {w w' : World} {m : Nat} (h : FnsAt w m) (hb : Below w.heap.size w w') : FnsAt w' m :=
  World.ownsMap.kept (row := none) h ⟨hb.os, hb.tape, hb.output, hb.size, fun i hi _ => hb.block i hi⟩ (by simp)
theorem FnsAt.chg {w w' : World} {m b : Nat} (h : FnsAt w m) (hc : Chg [b] w w') (hm : m ≠ b) : FnsAt w' m :=
  World.ownsMap.kept (row := some b) h ⟨hc.os, hc.tape, hc.output, hc.size, fun i hi hn => hc.block i hi (by simpa [eq_comm] using hn)⟩ (by simpa [eq_comm] using hm)
theorem FnsAt.lt {w : World} {m : Nat} (h : FnsAt w m) : m < w.heap.size := World.ownsMap.lt h
theorem fnsD_at (o : UInt8) (n : Nat) (h : fnsL.find? (fun e => e.1 == o) = some (o, n)) (z : DataW Unit) : fnsD.atKey (keyL o) z = fnD n := by
  have : ((fun p : Lit × DataW Unit => p.1.sameKey (keyL o)) ∘ fun e : UInt8 × Nat => (keyL e.1, fnD e.2)) = fun e => e.1 == o := by
    funext e; exact sameKey_key e.1 o
  simp only [fnsD, DataW.atKey, List.find?_map, this, h]
  rfl
/-- Looking up. -/
theorem FnsAt.look {w : World} {m : Nat} (h : FnsAt w m) (o : UInt8) (n : Nat) (ho : fnsL.find? (fun e => e.1 == o) = some (o, n)) : (Instr.lookup 50 (.map (some m)) (.int .u8 o.toNat) false).run Try.prog w = .ok (fnV n) w := by
  obtain ⟨es, clock, hb, F, _, hD⟩ := h
  rcases Maps.fit_look false law24 Try.underlying50 (Try.zeroValue67 w) hb F (key_of_op o) with ⟨hrun, _, hat⟩ | ⟨e0, y, _, _, hrun, hRv, hat, _⟩
  · rw [← hD] at hat
    have h1 := hat (fnD 0)
    have h2 := hat (fnD 1)
    rw [fnsD_at o n ho] at h1 h2
    have := fnD_inj (h1.symm.trans h2)
    omega
  · rw [hrun]
    rw [← hD] at hat
    obtain ⟨f, he, rfl⟩ := fnElem_inv hRv
    have h1 := hat (fnD 0)
    rw [fnsD_at o n ho] at h1
    have := fnD_inj h1
    subst this
    rw [he]; rfl
theorem wpList_insert_fn {w : World} {mb n : Nat} {D : DataW Unit} (h : w.ownsMap Try.prog 43 fnElem mb n D) {ops : Array Oper} {rest : List Oper} {o : Oper} {a : Act} {Q : Exit → Act → World → Prop}
    (hg : o.guard = none) (m x v : Operand) (hop : o.op = Op.insert 50 m x v) (hm : a.eval m = .map (some mb)) (k : UInt8) (hx : a.eval x = .int .u8 k.toNat) (f : Nat) (hv : a.eval v = fnV f)
    (hn : n < 100) (hK : ∀ w', w'.ownsMap Try.prog 43 fnElem mb (n + 1) (D.put (keyL k) (fnD f)) → w.grownBy w' (some mb) → wpList Try.prog ops Q rest (a.put o.dst undef) w') : wpList Try.prog ops Q (o :: rest) a w := by
  refine wpList_plain hg fun K' hK' => ?_
  obtain ⟨w', hrun, r1, r2⟩ := World.ownsMap.update h law24 Try.underlying50 (by unfold maxLen; omega) (key_of_op k) (fnElem_V f)
  unfold Oper.wp
  simp [execOp, hop, hm, hx, hv, hrun, Result.andThen]
  exact hK' _ _ (hK w' r1 r2)
set_option maxRecDepth 100000 in
set_option maxHeartbeats 2000000 in
theorem arith_any (w : World) : Calls Try.prog 13 #[] w fun e w' => e = .returned (.map (some w.heap.size)) ∧ FnsAt w' w.heap.size ∧ Below w.heap.size w w' := by
  have hmm := @run_makeMap Try.prog
  have hD := World.ownsMap_made w Try.prog 43 fnElem
  have hb := (Below.refl w.heap.size w).alloc (Nat.le_refl _) (.map #[] 0)
  go_enter Try.func13, Try.ntmps13
  go_wp2_with (first
    | (refine wpList_insert_fn hD rfl _ _ _ rfl rfl 2 rfl 20 rfl (by decide) ?_; clear hD; intro w1 hD hg; replace hb := hb.grown hg (by have := hb.size; omega) (fun k hk => by cases hk; exact Nat.le_refl _); clear hg)
    | (refine wpList_insert_fn hD rfl _ _ _ rfl rfl 3 rfl 21 rfl (by decide) ?_; clear hD; intro w1 hD hg; replace hb := hb.grown hg (by have := hb.size; omega) (fun k hk => by cases hk; exact Nat.le_refl _); clear hg)
    | (refine wpList_insert_fn hD rfl _ _ _ rfl rfl 4 rfl 22 rfl (by decide) ?_; clear hD; intro w1 hD hg; replace hb := hb.grown hg (by have := hb.size; omega) (fun k hk => by cases hk; exact Nat.le_refl _); clear hg))
  go_ret
  exact ⟨rfl, hD, hb⟩
end Go.Proofs
end
section
namespace Go.Proofs
open Go.RowKit
set_option linter.unusedVariables false
set_option linter.unusedSimpArgs false

/-! ### What an instruction does -/
def Gr.next (g : Gr) : Gr := { g with pc := g.pc + 1 }
abbrev Out := Int ⊕ (Gr × Cl × Int)
def doneP (n : Nat) (x : Ins) (g0 : Gr) : Out :=
  let g := g0.next
  if x.o = 0 then .inr (g, Cl.zero, 1)
  else if x.o = 1 then .inr (g.put x.a.toNat x.num, Cl.zero, 1)
  else if x.o = 2 then (if addF (g.r x.b.toNat) (g.r x.c.toNat) then .inr (g.put x.a.toNat (addN (g.r x.b.toNat) (g.r x.c.toNat)), Cl.zero, 1) else .inl 6)
  else if x.o = 3 then (if subF (g.r x.b.toNat) (g.r x.c.toNat) then .inr (g.put x.a.toNat (subN (g.r x.b.toNat) (g.r x.c.toNat)), Cl.zero, 1) else .inl 6)
  else if x.o = 4 then (if mulF (g.r x.b.toNat) (g.r x.c.toNat) then .inr (g.put x.a.toNat (mulN (g.r x.b.toNat) (g.r x.c.toNat)), Cl.zero, 1) else .inl 6)
  else if x.o = 5 then (if 0 ≤ g.pc + x.jump ∧ g.pc + x.jump ≤ n then .inr ({ g with pc := g.pc + x.jump }, Cl.zero, 1) else .inl 7)
  else if x.o = 6 then (if g.r x.a.toNat = 0 then (if 0 ≤ g.pc + x.jump ∧ g.pc + x.jump ≤ n then .inr ({ g with pc := g.pc + x.jump }, Cl.zero, 1) else .inl 7) else .inr (g, Cl.zero, 1))
  else if x.o = 7 then (if 0 ≤ g.cd then .inr (g.put x.a.toNat g.cd, Cl.zero, 1) else .inl 6)
  else .inr (g, ⟨(x.o.toNat : Int) - 16, g.r⟩, 2)
def outE : Out → Ending
  | .inl k => panicOf k
  | .inr (g, c, k) => .returned (.tuple #[g.val, c.val, .int .i64 k])
/-- The numbers of a goroutine are such as there are. -/
structure Gr.ok (g : Gr) : Prop where
  r0 : ∀ i, 0 ≤ g.r i
  r1 : ∀ i, g.r i < 18446744073709551616
  p0 : -4611686018427387904 ≤ g.pc
  p1 : g.pc ≤ 4611686018427387904
  c0 : -9223372036854775808 ≤ g.cd
  c1 : g.cd ≤ 9223372036854775807
theorem Cl.zero_arr : Cl.zero.arr = zC := rfl

/-- The frame of done behind its first words. -/
structure DoneAt (w W : World) (X : Array Value) (A : Array Value) : Prop where
  bx : Blk W w.heap.size 45 X
  bg : Blk W (w.heap.size + 1) 30 A
  br : Blk W (w.heap.size + 1 + 1) 30 zG
  bc : Blk W (w.heap.size + 1 + 1 + 1) 36 zC
  bl : Below w.heap.size w W
abbrev frame0 (w : World) (X : Array Value) (A : Array Value) : World := (((w.alloc (.cells X 45)).alloc (.cells A 30)).alloc (.cells zG 30)).alloc (.cells zC 36)
theorem doneAt_new (w : World) (X : Array Value) (A : Array Value) : DoneAt w (frame0 w X A) X A where
  bx := (((Blk.new w 45 X).alloc _).alloc _).alloc _
  bg := by have := ((Blk.new (w.alloc (.cells X 45)) 30 A).alloc (.cells zG 30)).alloc (.cells zC 36); simpa using this
  br := by have := (Blk.new ((w.alloc (.cells X 45)).alloc (.cells A 30)) 30 zG).alloc (.cells zC 36); simpa using this
  bc := by have := Blk.new (((w.alloc (.cells X 45)).alloc (.cells A 30)).alloc (.cells zG 30)) 36 zC; simpa using this
  bl := ((((Below.refl _ _).alloc (Nat.le_refl _) _).alloc (by simp) _).alloc (by simp; omega) _).alloc (by simp; omega) _
theorem DoneAt.set {w W : World} {X : Array Value} {A : Array Value} (h : DoneAt w W X A) (i : Nat) (v : Value) : DoneAt w (W.setCell ⟨w.heap.size + 1, i, none⟩ v) X (A.setIfInBounds i v) where
  bx := h.bx.far (by simp) _
  bg := h.bg.set_ i v
  br := h.br.far (by simp) _
  bc := h.bc.far (by simp; omega) _
  bl := h.bl.setCell (p := ⟨w.heap.size + 1, i, none⟩) (Nat.le_succ _) _
theorem DoneAt.below {w W W' : World} {X : Array Value} {A : Array Value} (h : DoneAt w W X A) (hb : Below W.heap.size W W') : DoneAt w W' X A where
  bx := h.bx.below hb
  bg := h.bg.below hb
  br := h.br.below hb
  bc := h.bc.below hb
  bl := h.bl.trans (hb.mono h.bl.size)
theorem DoneAt.drew {w W : World} {X : Array Value} {A : Array Value} (h : DoneAt w W X A) : DoneAt w W.drew X A := ⟨h.bx, h.bg, h.br, h.bc, below_drew h.bl⟩

/-- What done hands back. -/
theorem done_res {tmps : Array Value} {w : World} {b8 b9 : Nat} {A C : Array Value} {k : Int} (h8 : tmps[8]? = some (.pointer (some ⟨b8, 0, none⟩))) (h9 : tmps[9]? = some (.pointer (some ⟨b9, 0, none⟩))) (h10 : tmps[10]? = some (.int .i64 k))
    (hB : Blk w b8 30 A) (hw : Whole 30 A.size) (hC : Blk w b9 36 C) (hw2 : Whole 36 C.size) : (results Try.f18 tmps).run Try.prog w = .ok (.tuple #[.agg A, .agg C, .int .i64 k]) w := by
  have e1 := run_loadVar_blk hB hw
  have e2 := run_loadVar_blk hC hw2
  have q8 : tmps[8]?.getD undef = .pointer (some ⟨b8, 0, none⟩) := by rw [h8]; rfl
  simp [results, Try.results18, asAddr, h8, h9, h10, e1, e2]
end Go.Proofs
end
