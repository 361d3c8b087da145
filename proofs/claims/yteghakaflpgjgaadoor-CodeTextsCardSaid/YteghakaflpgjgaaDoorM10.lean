import Derived.Test.YteghakaflpgjgaaDoorM9
import Derived.Lib.QuietBelow
import Derived.Lib.AtoiAllMem
import Derived.Lib.ConvBytes
import Derived.OwnWalk
section
namespace Go.Proofs
open Go.RowKit
set_option linter.unusedVariables false
set_option linter.unusedSimpArgs false

set_option maxHeartbeats 4000000 in
set_option maxRecDepth 100000 in
theorem line_k1 (A B C : Int) (a0 : 0 ≤ A) (a1 : A < 256) (b0 : 0 ≤ B) (b1 : B < 256) (c0 : 0 ≤ C) (c1 : C < 256) (sa : ByteArray) (hs : sa.size ≤ 100) (N : Int) (sN : ByteArray) (hs2 : sN.size ≤ 100) (H : GivesS 47 #[.int .i64 A] sa) (HN : GivesN 15 #[insV 1 A B C] N) (H2 : GivesS 47 #[.int .i64 N] sN) (w : World) :
    Calls Tryd.prog 32 #[insV 1 A B C] w fun e w' => e = .returned (.string (((⟨(wConst ++ [32]).toArray⟩ ++ sa) ++ ⟨#[32]⟩) ++ sN)) ∧ Below w.heap.size w w' := by
  unfold GivesS at H H2
  unfold GivesN at HN
  obtain ⟨W0, hW0⟩ : ∃ W0, W0 = w.alloc (.cells #[.int .u8 1, .int .u8 A, .int .u8 B, .int .u8 C] 26) := ⟨_, rfl⟩
  have hx : Blk W0 w.heap.size 26 #[.int .u8 1, .int .u8 A, .int .u8 B, .int .u8 C] := by rw [hW0]; exact Blk.new w 26 _
  have hb0 : Below w.heap.size w W0 := by rw [hW0]; exact (Below.refl _ _).alloc (Nat.le_refl _) _
  have hWH := Lib.hid hW0
  have x0 := hx.cell 0
  have x1 := hx.cell 1
  have x2 := hx.cell 2
  have x3 := hx.cell 3
  simp only [List.getElem?_toArray, List.getElem?_cons_zero, List.getElem?_cons_succ] at x0 x1 x2 x3
  have k0 := cell_regrown x0
  have k1 := cell_regrown x1
  have k2 := cell_regrown x2
  have k3 := cell_regrown x3
  have cA : ∀ d os, Calls Tryd.prog 47 #[.int .i64 A] (Go.Sort.grow (redrawn W0 d) os) fun e w'' => e = .returned (.string sa) ∧ ∃ p : Regrown, w'' = Go.Sort.grow (redrawn W0 p.d) p.os := fun d os => Calls.regrown_of (H _)
  have cN : ∀ d os, Calls Tryd.prog 15 #[.agg #[.int .u8 1, .int .u8 A, .int .u8 B, .int .u8 C]] (Go.Sort.grow (redrawn W0 d) os) fun e w'' => e = .returned (.int .i64 N) ∧ ∃ p : Regrown, w'' = Go.Sort.grow (redrawn W0 p.d) p.os := fun d os => Calls.regrown_of (HN _)
  have cM : ∀ d os, Calls Tryd.prog 47 #[.int .i64 N] (Go.Sort.grow (redrawn W0 d) os) fun e w'' => e = .returned (.string sN) ∧ ∃ p : Regrown, w'' = Go.Sort.grow (redrawn W0 p.d) p.os := fun d os => Calls.regrown_of (H2 _)
  have n1 : ¬ 9223372036854775807 < 6 + sa.size := by omega
  have n2 : ¬ 9223372036854775807 < 6 + sa.size + 1 := by omega
  have n3 : ¬ 9223372036854775807 < 6 + sa.size + 1 + sN.size := by omega
  have wA : IntKind.i64.wrap A = A := IntWalk.i64_in _ (by omega)
  have hsz := hb0.size
  clear hx hW0 H HN H2
  by_cases hA : A = 0
  · by_cases hB : B = 0
    · by_cases hC : C = 0
      · subst hA hB hC
        go_enter Tryd.func32, Tryd.ntmps32
        go_wp2
        rw [← hWH.out]
        refine wp_region_quiet_below (by kernel_rfl) (by kernel_rfl) ?_
        repeat (quiet_step (first | with_reducible exact cA _ _ | with_reducible exact cN _ _ | with_reducible exact cM _ _))
        refine wpQuiet_nil ?_
        intro _ hw'
        obtain ⟨⟨dq, osq⟩, hw''⟩ := hw'
        subst hw''
        go_wp2
        go_ret
        exact ⟨rfl, hb0.trans ((below_regrown W0 dq osq).mono hsz)⟩
      · have qC : (C == 0) = false := by simpa using hC
        subst hA hB
        go_enter Tryd.func32, Tryd.ntmps32
        go_wp2
        rw [← hWH.out]
        refine wp_region_quiet_below (by kernel_rfl) (by kernel_rfl) ?_
        repeat (quiet_step (first | with_reducible exact cA _ _ | with_reducible exact cN _ _ | with_reducible exact cM _ _))
        refine wpQuiet_nil ?_
        intro _ hw'
        obtain ⟨⟨dq, osq⟩, hw''⟩ := hw'
        subst hw''
        go_wp2
        go_ret
        exact ⟨rfl, hb0.trans ((below_regrown W0 dq osq).mono hsz)⟩
    · have qB : (B == 0) = false := by simpa using hB
      subst hA
      go_enter Tryd.func32, Tryd.ntmps32
      go_wp2
      rw [← hWH.out]
      refine wp_region_quiet_below (by kernel_rfl) (by kernel_rfl) ?_
      repeat (quiet_step (first | with_reducible exact cA _ _ | with_reducible exact cN _ _ | with_reducible exact cM _ _))
      refine wpQuiet_nil ?_
      intro _ hw'
      obtain ⟨⟨dq, osq⟩, hw''⟩ := hw'
      subst hw''
      go_wp2
      go_ret
      exact ⟨rfl, hb0.trans ((below_regrown W0 dq osq).mono hsz)⟩
  · have qA : (A == 0) = false := by simpa using hA
    go_enter Tryd.func32, Tryd.ntmps32
    go_wp2
    rw [← hWH.out]
    refine wp_region_quiet_below (by kernel_rfl) (by kernel_rfl) ?_
    repeat (quiet_step (first | with_reducible exact cA _ _ | with_reducible exact cN _ _ | with_reducible exact cM _ _))
    refine wpQuiet_nil ?_
    intro _ hw'
    obtain ⟨⟨dq, osq⟩, hw''⟩ := hw'
    subst hw''
    go_wp2
    go_ret
    exact ⟨rfl, hb0.trans ((below_regrown W0 dq osq).mono hsz)⟩
set_option maxHeartbeats 4000000 in
set_option maxRecDepth 100000 in
theorem line_k6 (A B C : Int) (a0 : 0 ≤ A) (a1 : A < 256) (b0 : 0 ≤ B) (b1 : B < 256) (c0 : 0 ≤ C) (c1 : C < 256) (sa : ByteArray) (hs : sa.size ≤ 100) (N : Int) (sN : ByteArray) (hs2 : sN.size ≤ 100) (H : GivesS 47 #[.int .i64 A] sa) (HN : GivesN 17 #[insV 6 A B C] N) (H2 : GivesS 47 #[.int .i64 N] sN) (w : World) :
    Calls Tryd.prog 32 #[insV 6 A B C] w fun e w' => e = .returned (.string (((⟨(wZero ++ [32]).toArray⟩ ++ sa) ++ ⟨#[32]⟩) ++ sN)) ∧ Below w.heap.size w w' := by
  unfold GivesS at H H2
  unfold GivesN at HN
  obtain ⟨W0, hW0⟩ : ∃ W0, W0 = w.alloc (.cells #[.int .u8 6, .int .u8 A, .int .u8 B, .int .u8 C] 26) := ⟨_, rfl⟩
  have hx : Blk W0 w.heap.size 26 #[.int .u8 6, .int .u8 A, .int .u8 B, .int .u8 C] := by rw [hW0]; exact Blk.new w 26 _
  have hb0 : Below w.heap.size w W0 := by rw [hW0]; exact (Below.refl _ _).alloc (Nat.le_refl _) _
  have hWH := Lib.hid hW0
  have x0 := hx.cell 0
  have x1 := hx.cell 1
  have x2 := hx.cell 2
  have x3 := hx.cell 3
  simp only [List.getElem?_toArray, List.getElem?_cons_zero, List.getElem?_cons_succ] at x0 x1 x2 x3
  have k0 := cell_regrown x0
  have k1 := cell_regrown x1
  have k2 := cell_regrown x2
  have k3 := cell_regrown x3
  have cA : ∀ d os, Calls Tryd.prog 47 #[.int .i64 A] (Go.Sort.grow (redrawn W0 d) os) fun e w'' => e = .returned (.string sa) ∧ ∃ p : Regrown, w'' = Go.Sort.grow (redrawn W0 p.d) p.os := fun d os => Calls.regrown_of (H _)
  have cN : ∀ d os, Calls Tryd.prog 17 #[.agg #[.int .u8 6, .int .u8 A, .int .u8 B, .int .u8 C]] (Go.Sort.grow (redrawn W0 d) os) fun e w'' => e = .returned (.int .i64 N) ∧ ∃ p : Regrown, w'' = Go.Sort.grow (redrawn W0 p.d) p.os := fun d os => Calls.regrown_of (HN _)
  have cM : ∀ d os, Calls Tryd.prog 47 #[.int .i64 N] (Go.Sort.grow (redrawn W0 d) os) fun e w'' => e = .returned (.string sN) ∧ ∃ p : Regrown, w'' = Go.Sort.grow (redrawn W0 p.d) p.os := fun d os => Calls.regrown_of (H2 _)
  have n1 : ¬ 9223372036854775807 < 5 + sa.size := by omega
  have n2 : ¬ 9223372036854775807 < 5 + sa.size + 1 := by omega
  have n3 : ¬ 9223372036854775807 < 5 + sa.size + 1 + sN.size := by omega
  have wA : IntKind.i64.wrap A = A := IntWalk.i64_in _ (by omega)
  have hsz := hb0.size
  clear hx hW0 H HN H2
  by_cases hA : A = 0
  · by_cases hB : B = 0
    · by_cases hC : C = 0
      · subst hA hB hC
        go_enter Tryd.func32, Tryd.ntmps32
        go_wp2
        rw [← hWH.out]
        refine wp_region_quiet_below (by kernel_rfl) (by kernel_rfl) ?_
        repeat (quiet_step (first | with_reducible exact cA _ _ | with_reducible exact cN _ _ | with_reducible exact cM _ _))
        refine wpQuiet_nil ?_
        intro _ hw'
        obtain ⟨⟨dq, osq⟩, hw''⟩ := hw'
        subst hw''
        go_wp2
        go_ret
        exact ⟨rfl, hb0.trans ((below_regrown W0 dq osq).mono hsz)⟩
      · have qC : (C == 0) = false := by simpa using hC
        subst hA hB
        go_enter Tryd.func32, Tryd.ntmps32
        go_wp2
        rw [← hWH.out]
        refine wp_region_quiet_below (by kernel_rfl) (by kernel_rfl) ?_
        repeat (quiet_step (first | with_reducible exact cA _ _ | with_reducible exact cN _ _ | with_reducible exact cM _ _))
        refine wpQuiet_nil ?_
        intro _ hw'
        obtain ⟨⟨dq, osq⟩, hw''⟩ := hw'
        subst hw''
        go_wp2
        go_ret
        exact ⟨rfl, hb0.trans ((below_regrown W0 dq osq).mono hsz)⟩
    · have qB : (B == 0) = false := by simpa using hB
      subst hA
      go_enter Tryd.func32, Tryd.ntmps32
      go_wp2
      rw [← hWH.out]
      refine wp_region_quiet_below (by kernel_rfl) (by kernel_rfl) ?_
      repeat (quiet_step (first | with_reducible exact cA _ _ | with_reducible exact cN _ _ | with_reducible exact cM _ _))
      refine wpQuiet_nil ?_
      intro _ hw'
      obtain ⟨⟨dq, osq⟩, hw''⟩ := hw'
      subst hw''
      go_wp2
      go_ret
      exact ⟨rfl, hb0.trans ((below_regrown W0 dq osq).mono hsz)⟩
  · have qA : (A == 0) = false := by simpa using hA
    go_enter Tryd.func32, Tryd.ntmps32
    go_wp2
    rw [← hWH.out]
    refine wp_region_quiet_below (by kernel_rfl) (by kernel_rfl) ?_
    repeat (quiet_step (first | with_reducible exact cA _ _ | with_reducible exact cN _ _ | with_reducible exact cM _ _))
    refine wpQuiet_nil ?_
    intro _ hw'
    obtain ⟨⟨dq, osq⟩, hw''⟩ := hw'
    subst hw''
    go_wp2
    go_ret
    exact ⟨rfl, hb0.trans ((below_regrown W0 dq osq).mono hsz)⟩
end Go.Proofs
end
section
namespace Go.Proofs
open Go.RowKit
set_option linter.unusedVariables false
set_option linter.unusedSimpArgs false

theorem u8_zero_iff (x : UInt8) : ((x.toNat : Int) = 0) ↔ x = 0 := by
  constructor
  · intro h; apply UInt8.toNat_inj.1; show x.toNat = 0; omega
  · rintro rfl; rfl
theorem if_str (p q : Prop) [Decidable p] [Decidable q] (h : p ↔ q) (a : List UInt8) : (if p then (⟨a.toArray⟩ : ByteArray) else ⟨#[]⟩) = ⟨(if q then a else []).toArray⟩ := by
  by_cases hp : p
  · rw [if_pos hp, if_pos (h.1 hp)]
  · rw [if_neg hp, if_neg (fun hq => hp (h.2 hq))]
theorem rline_any (x : Ins) (w : World) : Calls Tryd.prog 32 #[x.val] w fun e w' => e = .returned (.string ⟨x.told.toArray⟩) ∧ Below w.heap.size w w' := by
  have hN := rnumber_any x
  have hJ := rjump_any x
  have hNn := num_any x.num (by omega) (by have := x.num_lt; omega)
  have hJn := num_any x.jump (by have := x.jump_in; omega) (by have := x.jump_in; omega)
  have zN : (⟨(Lib.itoa x.num).toArray⟩ : ByteArray).size ≤ 100 := by rw [str_size]; have := itoa_length (n := x.num) (by omega) (by have := x.num_lt; omega); omega
  have zJ : (⟨(Lib.itoa x.jump).toArray⟩ : ByteArray).size ≤ 100 := by rw [str_size]; have := itoa_length (n := x.jump) (by have := x.jump_in; omega) (by have := x.jump_in; omega); omega
  have jin := x.jump_in
  obtain ⟨o, a, b, c⟩ := x
  have hA := byte_num a
  have zA : (⟨(Lib.itoa a.toNat).toArray⟩ : ByteArray).size ≤ 100 := by rw [str_size]; have := itoa_length (n := a.toNat) (by omega) (by have := a.toNat_lt; omega); omega
  have h3 := three_any a b c
  have z3 : (⟨(bn a.toNat ++ bn b.toNat ++ bn c.toNat).toArray⟩ : ByteArray).size ≤ 100 := by
    rw [str_size]
    have := bn_length (n := a.toNat) (by omega) (by have := a.toNat_lt; omega)
    have := bn_length (n := b.toNat) (by omega) (by have := b.toNat_lt; omega)
    have := bn_length (n := c.toNat) (by omega) (by have := c.toNat_lt; omega)
    simp only [List.length_append]; omega
  have la : (0 : Int) ≤ a.toNat ∧ (a.toNat : Int) < 256 := by have := a.toNat_lt; omega
  have lb : (0 : Int) ≤ b.toNat ∧ (b.toNat : Int) < 256 := by have := b.toNat_lt; omega
  have lc : (0 : Int) ≤ c.toNat ∧ (c.toNat : Int) < 256 := by have := c.toNat_lt; omega
  have e3 : ((a.toNat : Int) = 0 ∧ (b.toNat : Int) = 0 ∧ (c.toNat : Int) = 0) ↔ (a = 0 ∧ b = 0 ∧ c = 0) := by rw [u8_zero_iff, u8_zero_iff, u8_zero_iff]
  rcases kinds o with (rfl | rfl | rfl | rfl | rfl | rfl | rfl | rfl | h) | h
  · refine (line_k0 a.toNat b.toNat c.toNat la.1 la.2 lb.1 lb.2 lc.1 lc.2 w).mono ?_
    rintro e w' ⟨rfl, hb⟩
    refine ⟨?_, hb⟩
    rw [if_str _ _ e3]; rfl
  · refine (line_k1 a.toNat b.toNat c.toNat la.1 la.2 lb.1 lb.2 lc.1 lc.2 _ zA _ _ zN hA hN hNn w).mono ?_
    rintro e w' ⟨rfl, hb⟩
    refine ⟨?_, hb⟩
    rw [show ({ data := #[32] } : ByteArray) = ⟨[32].toArray⟩ from rfl]
    simp only [str_append]
    simp [Ins.told, bn]
  · refine (line_k2 a.toNat b.toNat c.toNat la.1 la.2 lb.1 lb.2 lc.1 lc.2 _ z3 h3 w).mono ?_
    rintro e w' ⟨rfl, hb⟩
    refine ⟨?_, hb⟩
    simp only [str_append]
    simp [Ins.told, bn]
  · refine (line_k3 a.toNat b.toNat c.toNat la.1 la.2 lb.1 lb.2 lc.1 lc.2 _ z3 h3 w).mono ?_
    rintro e w' ⟨rfl, hb⟩
    refine ⟨?_, hb⟩
    simp only [str_append]
    simp [Ins.told, bn]
  · refine (line_k4 a.toNat b.toNat c.toNat la.1 la.2 lb.1 lb.2 lc.1 lc.2 _ z3 h3 w).mono ?_
    rintro e w' ⟨rfl, hb⟩
    refine ⟨?_, hb⟩
    simp only [str_append]
    simp [Ins.told, bn]
  · refine (line_k5 a.toNat b.toNat c.toNat la.1 la.2 lb.1 lb.2 lc.1 lc.2 _ (by omega) (by omega) _ zJ hJ hJn w).mono ?_
    rintro e w' ⟨rfl, hb⟩
    refine ⟨?_, hb⟩
    rw [str_append, if_str _ _ (u8_zero_iff a)]
    simp [Ins.told, bn]
  · refine (line_k6 a.toNat b.toNat c.toNat la.1 la.2 lb.1 lb.2 lc.1 lc.2 _ zA _ _ zJ hA hJ hJn w).mono ?_
    rintro e w' ⟨rfl, hb⟩
    refine ⟨?_, hb⟩
    rw [show ({ data := #[32] } : ByteArray) = ⟨[32].toArray⟩ from rfl]
    simp only [str_append]
    simp [Ins.told, bn]
  · refine (line_k7 a.toNat b.toNat c.toNat la.1 la.2 lb.1 lb.2 lc.1 lc.2 _ zA hA w).mono ?_
    rintro e w' ⟨rfl, hb⟩
    refine ⟨?_, hb⟩
    rw [str_append, if_str _ (b = 0 ∧ c = 0) (by rw [u8_zero_iff, u8_zero_iff])]
    simp [Ins.told, bn]
  · have hK := num_any ((o.toNat : Int) - 16) (by omega) (by omega)
    have zK : (⟨(Lib.itoa ((o.toNat : Int) - 16)).toArray⟩ : ByteArray).size ≤ 100 := by rw [str_size]; have := itoa_length (n := (o.toNat : Int) - 16) (by omega) (by omega); omega
    refine (line_kc o.toNat a.toNat b.toNat c.toNat (by omega) (by omega) la.1 la.2 lb.1 lb.2 lc.1 lc.2 _ zK hK w).mono ?_
    rintro e w' ⟨rfl, hb⟩
    refine ⟨?_, hb⟩
    rw [str_append, if_str _ _ e3, told_call h]
    simp [bn]
  · refine (line_kn o.toNat a.toNat b.toNat c.toNat (by have := o.toNat_lt; omega) la.1 la.2 lb.1 lb.2 lc.1 lc.2 w).mono ?_
    rintro e w' ⟨rfl, hb⟩
    exact ⟨by rw [told_none h], hb⟩
end Go.Proofs
end
section
namespace Go.Proofs
open Go.RowKit
set_option linter.unusedVariables false
set_option linter.unusedSimpArgs false

/-- A piece's line, by what the document asks. -/
theorem piece_full {l : List UInt8} {k : Nat} (h : 4 * k + 4 ≤ l.length) : (l.drop (4 * k)).take 4 = (insAt l k).bytes := by
  rw [drop_at h]; rfl
theorem decode_full {l : List UInt8} {k : Nat} (h : 4 * k + 4 ≤ l.length) : decodeP l (k : Int) = if (insAt l k).is then (insAt l k, 0) else (Ins.zero, 7) := by
  unfold decodeP
  rw [if_neg (by omega), if_neg (by omega)]
  rfl
theorem decode_part {l : List UInt8} {k : Nat} (h : 4 * k < l.length) (h2 : l.length < 4 * k + 4) : decodeP l (k : Int) = (Ins.zero, 7) := by
  unfold decodeP
  rw [if_neg (by omega), if_pos (by omega)]
/-- Either the line is told, or the bytes are. -/
theorem lineAt_cases {l : List UInt8} {k : Nat} (h : 4 * k < l.length) :
    (∃ x, decodeP l (k : Int) = (x, 0) ∧ x.told ≠ [] ∧ lineAt l k = x.told) ∨ (∃ x e, decodeP l (k : Int) = (x, e) ∧ (e ≠ 0 ∨ x.told = []) ∧ 0 ≤ e ∧ e < 100 ∧ lineAt l k = rawP ((l.drop (4 * k)).take 4)) := by
  unfold lineAt
  by_cases hf : 4 * k + 4 ≤ l.length
  · rw [decode_full hf, piece_full hf]
    by_cases hi : (insAt l k).is = true
    · rw [if_pos hi]
      by_cases ht : (insAt l k).told = []
      · refine .inr ⟨_, _, rfl, .inr ht, by decide, by decide, ?_⟩
        simp only [Ins.bytes, lineP]
        rw [if_neg (fun e => e.2 ht)]
      · refine .inl ⟨_, rfl, ht, ?_⟩
        simp only [Ins.bytes, lineP]
        rw [if_pos ⟨hi, ht⟩]
    · rw [if_neg hi]
      refine .inr ⟨_, _, rfl, .inl (by decide), by decide, by decide, ?_⟩
      simp only [Ins.bytes, lineP]
      rw [if_neg (fun e => hi e.1)]
  · rw [decode_part h (by omega)]
    refine .inr ⟨_, _, rfl, .inl (by decide), by decide, by decide, ?_⟩
    exact lineP_short (by rw [List.length_take, List.length_drop]; omega)
theorem take_snoc' {l : List UInt8} {k : Nat} {x : UInt8} (h : l[k]? = some x) : l.take (k + 1) = l.take k ++ [x] := by rw [List.take_add_one, h]; rfl
theorem two_by (w : World) (x y : UInt8) : By (w.alloc (.cells #[.int .u8 x.toNat, .int .u8 y.toNat] 5)) (.slice (some ⟨w.heap.size, 0, none⟩) 2 2) [x, y] := Cs.new w (bys [x, y]) 5 2 (by unfold maxLen; omega)
set_option maxHeartbeats 4000000 in
set_option maxRecDepth 100000 in
theorem rtext_any (V : Value) (l : List UInt8) (hl : l.length ≤ 20000) (w : World) (h : By w V l) : Calls Tryd.prog 20 #[V] w fun e w' => e = .returned (.string ⟨(textP l).toArray⟩) ∧ Below w.heap.size w w' := by
  have hD := fun k W (hb : Below w.heap.size w W) (hk : k ≤ 10000) => rdecode_any V l (by omega) (k : Nat) (by omega) (by omega) W (h.below hb)
  have hL := fun x W => rline_any x W
  obtain ⟨A, c, rfl, hc1, hc2, hcell⟩ := h
  obtain ⟨n, hn⟩ : ∃ n, n = l.length := ⟨_, rfl⟩
  rw [← hn] at hc1 hl hD ⊢
  have hnH := Lib.hid hn
  have hDH := Lib.hid hD
  have hLH := Lib.hid hL
  have hcellH := Lib.hid hcell
  clear hcell hn hD hL
  go_enter Tryd.func20, Tryd.ntmps20
  go_wp2
  go_loopw [3, 4] (fun ov iv wr => ∃ (k : Nat), iv = .int .i64 (4 * k : Nat) ∧ ov = .string ⟨(textTo l k).toArray⟩ ∧ k ≤ pieces n ∧ Below w.heap.size w wr) (fun _ iv _ => 4 * pieces n - (intOf iv).toNat)
  case atStart => exact ⟨0, rfl, rfl, by omega, Below.refl _ _⟩
  case round =>
    obtain ⟨k, rfl, rfl, hk, hbw⟩ := hrel
    have hpm : pieces n = (n + 3) / 4 := rfl
    by_cases hlt : 4 * k < n
    · have hdv : (((4 * k : Nat) : Int).tdiv 4) = (k : Int) := by rw [Int.tdiv_eq_ediv_of_nonneg (by omega)]; omega
      have hdec := hDH.out k wr hbw (by omega)
      have hll : (lineAt l k).length ≤ 26 := line_length (take4_le _)
      have htl := textTo_length l k
      obtain ⟨oB, hoB⟩ : ∃ oB : ByteArray, oB = ⟨(textTo l k).toArray⟩ := ⟨_, rfl⟩
      have hoz : oB.size ≤ 1000000 := by rw [hoB, str_size]; omega
      rw [← hoB]
      rcases lineAt_cases (l := l) (k := k) (by rw [← hnH.out]; exact hlt) with ⟨x, e1, e2, e3⟩ | ⟨x, e, e1, e2, e4, e5, e3⟩
      · rw [e1] at hdec
        replace hdec : Calls Tryd.prog 11 #[.slice A n c, .int .i64 (k : Int)] wr fun e w' => e = .returned (.tuple #[.agg x.arr, .int .i64 0]) ∧ Below wr.heap.size wr w' := hdec
        have hline : ∀ W, Calls Tryd.prog 32 #[.agg x.arr] W fun e w' => e = .returned (.string ⟨x.told.toArray⟩) ∧ Below W.heap.size W w' := fun W => hLH.out x W
        obtain ⟨sB, hsB⟩ : ∃ sB : ByteArray, sB = ⟨x.told.toArray⟩ := ⟨_, rfl⟩
        have hsz : sB.size ≤ 100 := by rw [hsB, str_size, ← e3]; omega
        have hne : sB.toList.isEmpty = false := by
          rw [← decide_eq_emptyBytes]
          exact decide_eq_false (fun q => e2 (by rw [hsB] at q; simpa using congrArg (fun b : ByteArray => b.data.toList) q))
        rw [← hsB] at hline
        have hK := Lib.hid (⟨e3, hoB, hsB, hbw⟩ : _ ∧ _ ∧ _ ∧ _)
        clear e1 e2 e3 hoB hsB hll htl hbw
        go_wp2_with (first
          | (go_at_call 11; refine hdec.mono ?_; rintro e w1 ⟨rfl, hb1⟩)
          | (go_at_call 32; refine (hline _).mono ?_; rintro e w2 ⟨rfl, hb2⟩))
        obtain ⟨e3, hoB, hsB, hbw⟩ := hK.out
        go_roundw
        case rel =>
          have h1 := hbw.trans (hb1.mono hbw.size)
          have h2 := h1.alloc h1.size (.cells x.arr 26)
          refine ⟨k + 1, by first | rfl | (congr 1; omega), ?_, by omega, h2.trans (hb2.mono h2.size)⟩
          rw [textTo_succ, e3, hoB, hsB, show ({ data := #[10] } : ByteArray) = ⟨[10].toArray⟩ from rfl]
          simp only [str_append]
          simp
        case measure => simp [intOf]; omega
      · rw [e1] at hdec
        replace hdec : Calls Tryd.prog 11 #[.slice A n c, .int .i64 (k : Int)] wr fun e' w' => e' = .returned (.tuple #[.agg x.arr, .int .i64 e]) ∧ Below wr.heap.size wr w' := hdec
        have hline : ∀ W, Calls Tryd.prog 32 #[.agg x.arr] W fun e w' => e = .returned (.string ⟨x.told.toArray⟩) ∧ Below W.heap.size W w' := fun W => hLH.out x W
        obtain ⟨sB, hsB⟩ : ∃ sB : ByteArray, sB = ⟨x.told.toArray⟩ := ⟨_, rfl⟩
        have hne : (e != 0) = true ∨ ((e != 0) = false ∧ sB.toList.isEmpty = true) := by
          by_cases h0 : e = 0
          · right
            refine ⟨by simp [h0], ?_⟩
            rcases e2 with e2 | e2
            · exact absurd h0 e2
            · rw [← decide_eq_emptyBytes, hsB, e2]
              exact decide_eq_true rfl
          · left; simpa using h0
        have hsz : sB.size ≤ 100 := by rw [hsB, str_size]; have := told_length x; omega
        rw [← hsB] at hline
        have hK := Lib.hid (⟨e3, hoB, hbw⟩ : _ ∧ _ ∧ _)
        clear e1 e2 e3 hoB hsB hll htl hbw
        rcases hne with hne | ⟨hne, hne2⟩
        · go_wp2_with (first
            | (go_at_call 11; refine hdec.mono ?_; rintro e' w1 ⟨rfl, hb1⟩)
            | (go_at_call 32; refine (hline _).mono ?_; rintro e' w2 ⟨rfl, hb2⟩))
          have HB1 := hK.out.2.2.trans (hb1.mono hK.out.2.2.size)
          have HB1' := HB1.alloc HB1.size (.cells x.arr 26)
          have HB2 := HB1'.trans (hb2.mono HB1'.size)
          clear hb1 hb2 HB1 HB1'
          clear hdec hline
          go_loopw [7, 8] (fun sv jv WR => ∃ (j : Nat), jv = .int .i64 (4 * k + j : Nat) ∧ sv = .string ⟨(rawB ++ hexP (((l.drop (4 * k)).take 4).take j)).toArray⟩ ∧ 4 * k + j ≤ n ∧ j ≤ 4 ∧ Below w.heap.size w WR) (fun _ jv _ => n - (intOf jv).toNat)
          case atStart => exact ⟨0, rfl, rfl, by omega, by omega, HB2⟩
          case round =>
            obtain ⟨j, rfl, rfl, hj, hj4, hbw2⟩ := hrel
            have hlen : ((l.drop (4 * k)).take 4).length = min 4 (n - 4 * k) := by rw [List.length_take, List.length_drop, ← hnH.out]
            by_cases hgo : j < 4 ∧ 4 * k + j < n
            · obtain ⟨hj3, hin⟩ := hgo
              obtain ⟨b, hb⟩ : ∃ b, l[4 * k + j]? = some b := ⟨_, List.getElem?_eq_getElem (by rw [← hnH.out]; exact hin)⟩
              have hbc : ((l.drop (4 * k)).take 4)[j]? = some b := by
                rw [List.getElem?_take, if_pos hj3, List.getElem?_drop]; exact hb
              obtain ⟨g, off, rfl, hg, hcx⟩ := hcellH.out _ _ (bys_at hb)
              have hq : ∀ W, Below w.heap.size w W → W.cell? ⟨g, off + (4 * k + j), none⟩ = some (.int .u8 b.toNat) := fun W hW => (hW.cell (p := ⟨g, off + (4 * k + j), none⟩) hg).trans hcx
              obtain ⟨i, hi⟩ : ∃ i, i = 4 * k + j := ⟨_, rfl⟩
              have hbl := b.toNat_lt
              obtain ⟨X, hX⟩ : ∃ X : Int, X = (b.toNat : Int) := ⟨_, rfl⟩
              obtain ⟨q1, hq1⟩ : ∃ q1 : Int, q1 = ((b.toNat / 16 : Nat) : Int) := ⟨_, rfl⟩
              obtain ⟨q2, hq2⟩ : ∃ q2 : Int, q2 = ((b.toNat % 16 : Nat) : Int) := ⟨_, rfl⟩
              have g1 := fun W => digit_any (b.toNat / 16) (by omega) W
              have g2 := fun W => digit_any (b.toNat % 16) (by omega) W
              have f1 : IntKind.u8.wrap (X.tdiv 16) = q1 := by rw [hX, hq1, Int.tdiv_eq_ediv_of_nonneg (by omega), IntKind.wrap_u8]; omega
              have f2 : X.tmod 16 = q2 := by rw [hX, hq2, Int.tmod_eq_emod_of_nonneg (by omega)]; omega
              rw [← hq1] at g1
              rw [← hq2] at g2
              obtain ⟨d1, hd1⟩ : ∃ d1, d1 = hexDigit (b.toNat / 16) := ⟨_, rfl⟩
              obtain ⟨d2, hd2⟩ : ∃ d2, d2 = hexDigit (b.toNat % 16) := ⟨_, rfl⟩
              rw [← hd1] at g1
              rw [← hd2] at g2
              obtain ⟨dB, hdB⟩ : ∃ dB : ByteArray, dB = ⟨[d1, d2].toArray⟩ := ⟨_, rfl⟩
              have hdz : dB.size ≤ 2 := by rw [hdB, str_size]; simp
              obtain ⟨tB, htB⟩ : ∃ tB : ByteArray, tB = ⟨(rawB ++ hexP (((l.drop (4 * k)).take 4).take j)).toArray⟩ := ⟨_, rfl⟩
              have htz : tB.size ≤ 100 := by rw [htB, str_size, List.length_append, hexP_length, List.length_take, hlen]; simp; omega
              rw [← htB]
              have hcw := fun W => conv_bytes (two_by W d1 d2)
              rw [show ({ data := [d1, d2].toArray } : ByteArray) = dB from hdB.symm] at hcw
              have c0 := hq wr.drew (below_drew hbw2)
              rw [← hX] at c0
              rw [← hi] at c0 hin ⊢
              have i1 : (i : Int) < 4 * (k : Int) + 4 := by omega
              have i2 : (i : Int) < (n : Int) := by omega
              have i3 : (0 : Int) ≤ (i : Int) := by omega
              have i4 : i ≤ 20000 := by omega
              have i5 : 4 * k ≤ 20000 := by omega
              have gA := g1 wr.drew
              have gB := g2 wr.drew
              have hc0 := hcw wr.drew
              rw [show wr.drew.heap.size = wr.heap.size from rfl] at hc0
              have hc1' : (convert 22 9 (.slice (some ⟨wr.heap.size, 0, none⟩) 2 2)).run Tryd.prog (wr.alloc (.cells #[.int .u8 d1.toNat, .int .u8 d2.toNat] 5)).drew = .ok (.string dB) (wr.alloc (.cells #[.int .u8 d1.toNat, .int .u8 d2.toNat] 5)).drew := by
                have := conv_bytes ((two_by wr d1 d2).below (below_drew (Below.refl _ _)))
                rw [hdB]; exact this
              have HK2 := Lib.hid (⟨hbc, hd1, hd2, hdB, htB, hi, hbw2, hlen⟩ : _ ∧ _ ∧ _ ∧ _ ∧ _ ∧ _ ∧ _ ∧ _)
              clear hb hbc hcx hX hq1 hq2 hd1 hd2 hdB htB hi hq hcw g1 g2 hbl hbw2 hlen hin hj
              go_wp2
              go_region_with (go_at_call 33; first | (with_reducible refine gA.mono ?_; rintro e' w5 ⟨rfl, rfl⟩) | (with_reducible refine gB.mono ?_; rintro e' w5 ⟨rfl, rfl⟩))
              all_goals go_wp2
              all_goals
                obtain ⟨hbc, hd1, hd2, hdB, htB, hi, hbw2, hlen⟩ := HK2.out
                go_roundw
                case rel =>
                  refine ⟨j + 1, by congr 1; omega, ?_, by omega, by omega, ?_⟩
                  · rw [htB, hdB, str_append, take_snoc' hbc, hexP_snoc, hd1, hd2, List.append_assoc]
                  · first
                      | exact below_drew (hbw2.alloc hbw2.size _)
                      | exact (below_drew hbw2).alloc hbw2.size _
                case measure => simp [intOf]; omega
            · obtain ⟨tB, htB⟩ : ∃ tB : ByteArray, tB = ⟨(rawB ++ hexP (((l.drop (4 * k)).take 4).take j)).toArray⟩ := ⟨_, rfl⟩
              have htz : tB.size ≤ 100 := by rw [htB, str_size, List.length_append, hexP_length, List.length_take, hlen]; simp; omega
              have hall : ((l.drop (4 * k)).take 4).take j = (l.drop (4 * k)).take 4 := List.take_of_length_le (by rw [hlen]; omega)
              rw [hall] at htB
              rw [hall, ← htB]
              have HK2 := Lib.hid (⟨htB, hbw2⟩ : _ ∧ _)
              have hj3 : j = 4 ∨ (j < 4 ∧ 4 * k + j = n) := by omega
              clear hall htB hbw2
              rcases hj3 with hj3 | ⟨hj3, hjn⟩
              · subst hj3
                go_wp2
                go_roundw
                case rel =>
                  obtain ⟨e3, hoB, _⟩ := hK.out
                  obtain ⟨htB, hbw2⟩ := HK2.out
                  refine ⟨k + 1, by first | rfl | (congr 1; omega), ?_, by omega, hbw2⟩
                  rw [textTo_succ, e3, hoB, htB, show ({ data := #[10] } : ByteArray) = ⟨[10].toArray⟩ from rfl]
                  simp only [str_append]
                  simp [rawP]
                case measure => simp [intOf]; omega
              · have i1 : ((4 * k + j : Nat) : Int) < 4 * (k : Int) + 4 := by omega
                have i2 : ¬ ((4 * k + j : Nat) : Int) < (n : Int) := by omega
                go_wp2
                go_roundw
                case rel =>
                  obtain ⟨e3, hoB, _⟩ := hK.out
                  obtain ⟨htB, hbw2⟩ := HK2.out
                  refine ⟨k + 1, by first | rfl | (congr 1; omega), ?_, by omega, hbw2⟩
                  rw [textTo_succ, e3, hoB, htB, show ({ data := #[10] } : ByteArray) = ⟨[10].toArray⟩ from rfl]
                  simp only [str_append]
                  simp [rawP]
                case measure => simp [intOf]; omega
        · go_wp2_with (first
            | (go_at_call 11; refine hdec.mono ?_; rintro e' w1 ⟨rfl, hb1⟩)
            | (go_at_call 32; refine (hline _).mono ?_; rintro e' w2 ⟨rfl, hb2⟩))
          have HB1 := hK.out.2.2.trans (hb1.mono hK.out.2.2.size)
          have HB1' := HB1.alloc HB1.size (.cells x.arr 26)
          have HB2 := HB1'.trans (hb2.mono HB1'.size)
          clear hb1 hb2 HB1 HB1'
          clear hdec hline
          go_loopw [7, 8] (fun sv jv WR => ∃ (j : Nat), jv = .int .i64 (4 * k + j : Nat) ∧ sv = .string ⟨(rawB ++ hexP (((l.drop (4 * k)).take 4).take j)).toArray⟩ ∧ 4 * k + j ≤ n ∧ j ≤ 4 ∧ Below w.heap.size w WR) (fun _ jv _ => n - (intOf jv).toNat)
          case atStart => exact ⟨0, rfl, rfl, by omega, by omega, HB2⟩
          case round =>
            obtain ⟨j, rfl, rfl, hj, hj4, hbw2⟩ := hrel
            have hlen : ((l.drop (4 * k)).take 4).length = min 4 (n - 4 * k) := by rw [List.length_take, List.length_drop, ← hnH.out]
            by_cases hgo : j < 4 ∧ 4 * k + j < n
            · obtain ⟨hj3, hin⟩ := hgo
              obtain ⟨b, hb⟩ : ∃ b, l[4 * k + j]? = some b := ⟨_, List.getElem?_eq_getElem (by rw [← hnH.out]; exact hin)⟩
              have hbc : ((l.drop (4 * k)).take 4)[j]? = some b := by
                rw [List.getElem?_take, if_pos hj3, List.getElem?_drop]; exact hb
              obtain ⟨g, off, rfl, hg, hcx⟩ := hcellH.out _ _ (bys_at hb)
              have hq : ∀ W, Below w.heap.size w W → W.cell? ⟨g, off + (4 * k + j), none⟩ = some (.int .u8 b.toNat) := fun W hW => (hW.cell (p := ⟨g, off + (4 * k + j), none⟩) hg).trans hcx
              obtain ⟨i, hi⟩ : ∃ i, i = 4 * k + j := ⟨_, rfl⟩
              have hbl := b.toNat_lt
              obtain ⟨X, hX⟩ : ∃ X : Int, X = (b.toNat : Int) := ⟨_, rfl⟩
              obtain ⟨q1, hq1⟩ : ∃ q1 : Int, q1 = ((b.toNat / 16 : Nat) : Int) := ⟨_, rfl⟩
              obtain ⟨q2, hq2⟩ : ∃ q2 : Int, q2 = ((b.toNat % 16 : Nat) : Int) := ⟨_, rfl⟩
              have g1 := fun W => digit_any (b.toNat / 16) (by omega) W
              have g2 := fun W => digit_any (b.toNat % 16) (by omega) W
              have f1 : IntKind.u8.wrap (X.tdiv 16) = q1 := by rw [hX, hq1, Int.tdiv_eq_ediv_of_nonneg (by omega), IntKind.wrap_u8]; omega
              have f2 : X.tmod 16 = q2 := by rw [hX, hq2, Int.tmod_eq_emod_of_nonneg (by omega)]; omega
              rw [← hq1] at g1
              rw [← hq2] at g2
              obtain ⟨d1, hd1⟩ : ∃ d1, d1 = hexDigit (b.toNat / 16) := ⟨_, rfl⟩
              obtain ⟨d2, hd2⟩ : ∃ d2, d2 = hexDigit (b.toNat % 16) := ⟨_, rfl⟩
              rw [← hd1] at g1
              rw [← hd2] at g2
              obtain ⟨dB, hdB⟩ : ∃ dB : ByteArray, dB = ⟨[d1, d2].toArray⟩ := ⟨_, rfl⟩
              have hdz : dB.size ≤ 2 := by rw [hdB, str_size]; simp
              obtain ⟨tB, htB⟩ : ∃ tB : ByteArray, tB = ⟨(rawB ++ hexP (((l.drop (4 * k)).take 4).take j)).toArray⟩ := ⟨_, rfl⟩
              have htz : tB.size ≤ 100 := by rw [htB, str_size, List.length_append, hexP_length, List.length_take, hlen]; simp; omega
              rw [← htB]
              have hcw := fun W => conv_bytes (two_by W d1 d2)
              rw [show ({ data := [d1, d2].toArray } : ByteArray) = dB from hdB.symm] at hcw
              have c0 := hq wr.drew (below_drew hbw2)
              rw [← hX] at c0
              rw [← hi] at c0 hin ⊢
              have i1 : (i : Int) < 4 * (k : Int) + 4 := by omega
              have i2 : (i : Int) < (n : Int) := by omega
              have i3 : (0 : Int) ≤ (i : Int) := by omega
              have i4 : i ≤ 20000 := by omega
              have i5 : 4 * k ≤ 20000 := by omega
              have gA := g1 wr.drew
              have gB := g2 wr.drew
              have hc0 := hcw wr.drew
              rw [show wr.drew.heap.size = wr.heap.size from rfl] at hc0
              have hc1' : (convert 22 9 (.slice (some ⟨wr.heap.size, 0, none⟩) 2 2)).run Tryd.prog (wr.alloc (.cells #[.int .u8 d1.toNat, .int .u8 d2.toNat] 5)).drew = .ok (.string dB) (wr.alloc (.cells #[.int .u8 d1.toNat, .int .u8 d2.toNat] 5)).drew := by
                have := conv_bytes ((two_by wr d1 d2).below (below_drew (Below.refl _ _)))
                rw [hdB]; exact this
              have HK2 := Lib.hid (⟨hbc, hd1, hd2, hdB, htB, hi, hbw2, hlen⟩ : _ ∧ _ ∧ _ ∧ _ ∧ _ ∧ _ ∧ _ ∧ _)
              clear hb hbc hcx hX hq1 hq2 hd1 hd2 hdB htB hi hq hcw g1 g2 hbl hbw2 hlen hin hj
              go_wp2
              go_region_with (go_at_call 33; first | (with_reducible refine gA.mono ?_; rintro e' w5 ⟨rfl, rfl⟩) | (with_reducible refine gB.mono ?_; rintro e' w5 ⟨rfl, rfl⟩))
              all_goals go_wp2
              all_goals
                obtain ⟨hbc, hd1, hd2, hdB, htB, hi, hbw2, hlen⟩ := HK2.out
                go_roundw
                case rel =>
                  refine ⟨j + 1, by congr 1; omega, ?_, by omega, by omega, ?_⟩
                  · rw [htB, hdB, str_append, take_snoc' hbc, hexP_snoc, hd1, hd2, List.append_assoc]
                  · first
                      | exact below_drew (hbw2.alloc hbw2.size _)
                      | exact (below_drew hbw2).alloc hbw2.size _
                case measure => simp [intOf]; omega
            · obtain ⟨tB, htB⟩ : ∃ tB : ByteArray, tB = ⟨(rawB ++ hexP (((l.drop (4 * k)).take 4).take j)).toArray⟩ := ⟨_, rfl⟩
              have htz : tB.size ≤ 100 := by rw [htB, str_size, List.length_append, hexP_length, List.length_take, hlen]; simp; omega
              have hall : ((l.drop (4 * k)).take 4).take j = (l.drop (4 * k)).take 4 := List.take_of_length_le (by rw [hlen]; omega)
              rw [hall] at htB
              rw [hall, ← htB]
              have HK2 := Lib.hid (⟨htB, hbw2⟩ : _ ∧ _)
              have hj3 : j = 4 ∨ (j < 4 ∧ 4 * k + j = n) := by omega
              clear hall htB hbw2
              rcases hj3 with hj3 | ⟨hj3, hjn⟩
              · subst hj3
                go_wp2
                go_roundw
                case rel =>
                  obtain ⟨e3, hoB, _⟩ := hK.out
                  obtain ⟨htB, hbw2⟩ := HK2.out
                  refine ⟨k + 1, by first | rfl | (congr 1; omega), ?_, by omega, hbw2⟩
                  rw [textTo_succ, e3, hoB, htB, show ({ data := #[10] } : ByteArray) = ⟨[10].toArray⟩ from rfl]
                  simp only [str_append]
                  simp [rawP]
                case measure => simp [intOf]; omega
              · have i1 : ((4 * k + j : Nat) : Int) < 4 * (k : Int) + 4 := by omega
                have i2 : ¬ ((4 * k + j : Nat) : Int) < (n : Int) := by omega
                go_wp2
                go_roundw
                case rel =>
                  obtain ⟨e3, hoB, _⟩ := hK.out
                  obtain ⟨htB, hbw2⟩ := HK2.out
                  refine ⟨k + 1, by first | rfl | (congr 1; omega), ?_, by omega, hbw2⟩
                  rw [textTo_succ, e3, hoB, htB, show ({ data := #[10] } : ByteArray) = ⟨[10].toArray⟩ from rfl]
                  simp only [str_append]
                  simp [rawP]
                case measure => simp [intOf]; omega
    · have hke : k = pieces n := by omega
      have hq : ¬ ((4 * k : Nat) : Int) < (n : Int) := by omega
      have e1 : textTo l k = textP l := by rw [hke, hnH.out]; rfl
      rw [e1]
      have hbH := Lib.hid hbw
      clear hbw e1 hke
      go_wp2
      go_ret
      exact ⟨rfl, hbH.out⟩
end Go.Proofs
end
section
namespace Go.Proofs
open Go.RowKit Go.Lib
set_option linter.unusedVariables false
set_option linter.unusedSimpArgs false

/-! ### strconv.ParseUint at base 16, 64 bits -/
def p16E (s : List UInt8) : NumEnd Nat := if s = [] then NumEnd.syntax else p16 0 s
theorem p16V_end (s : List UInt8) : p16V s = match p16E s with | .ok v => v | NumEnd.syntax => 0 | .range => 18446744073709551615 := by
  unfold p16V p16E
  by_cases h : s = []
  · rw [if_pos h, if_pos h]
  · rw [if_neg h, if_neg h]
    cases p16 0 s <;> rfl
theorem p16_lt : ∀ (l : List UInt8) (acc v : Nat), acc < 18446744073709551616 → p16 acc l = .ok v → v < 18446744073709551616
  | [], acc, v, ha, h => by simp only [p16] at h; injection h with h; omega
  | c :: r, acc, v, ha, h => by
    simp only [p16] at h
    split at h
    · cases h
    · rename_i d hd
      split at h
      · cases h
      · refine p16_lt r _ v ?_ h
        have : d < 16 := by
          unfold hexVal at hd
          split at hd
          · injection hd with hd; omega
          split at hd
          · injection hd with hd; omega
          · cases hd
        omega
theorem lowc_bits (c : UInt8) : bits BinOp.or IntKind.u8 (c.toNat : Int) 32 = (lowc c : Int) := by
  have hc := c.toNat_lt
  have := u8_or_nat c.toNat 32 hc (by omega)
  rw [show ((32 : Nat) : Int) = 32 from rfl] at this
  rw [this]; unfold lowc; rw [UInt8.toNat_or]; rfl
theorem lowc_95 {c : UInt8} (h : c.toNat = 95) : lowc c = 127 := by
  have : c = 95 := ofN (n := 95) h
  subst this; rfl
theorem lowc_lt (c : UInt8) : lowc c < 256 := (c ||| 32).toNat_lt
theorem hexVal_dig {c : UInt8} (h : 48 ≤ c.toNat ∧ c.toNat ≤ 57) : hexVal c = some (c.toNat - 48) := by unfold hexVal; rw [if_pos h]
theorem hexVal_let {c : UInt8} (h : ¬ (48 ≤ c.toNat ∧ c.toNat ≤ 57)) (h2 : 97 ≤ lowc c ∧ lowc c ≤ 102) : hexVal c = some (lowc c - 87) := by unfold hexVal; rw [if_neg h, if_pos h2]
theorem hexVal_no {c : UInt8} (h : ¬ (48 ≤ c.toNat ∧ c.toNat ≤ 57)) (h2 : ¬ (97 ≤ lowc c ∧ lowc c ≤ 102)) : hexVal c = none := by unfold hexVal; rw [if_neg h, if_neg h2]
theorem p16_none {acc : Nat} {c : UInt8} {r : List UInt8} (h : hexVal c = none) : p16 acc (c :: r) = NumEnd.syntax := by simp only [p16, h]
theorem p16_range {acc d : Nat} {c : UInt8} {r : List UInt8} (h : hexVal c = some d) (h2 : 1152921504606846976 ≤ acc) : p16 acc (c :: r) = .range := by simp only [p16, h]; rw [if_pos h2]
theorem p16_go {acc d : Nat} {c : UInt8} {r : List UInt8} (h : hexVal c = some d) (h2 : ¬ 1152921504606846976 ≤ acc) : p16 acc (c :: r) = p16 (acc * 16 + d) r := by simp only [p16, h]; rw [if_neg h2]
set_option maxHeartbeats 32000000 in
set_option maxRecDepth 100000 in
theorem uint16_in (t : ByteArray) (hne : t.size ≠ 0) (hmax : t.size ≤ 1000000) (w : World) :
    Calls Tryd.prog 65 #[.string t, .int .i64 16, .int .i64 64] w fun e w' => e = .returned (Lib.uintTuple 112 (p16 0 t.data.toList)) ∧ w' = Lib.bytesWorld w 5 t := by
  have hemp : t.toList.isEmpty = false := by
    rw [← decide_eq_emptyBytes]
    exact decide_eq_false (fun h => hne (by rw [h]; rfl))
  have hcv := Lib.run_convert_string_bytes (P := Tryd.prog) w 9 22 5 t (u := .string) Tryd.underlying9 Tryd.underlying22 Tryd.underlying5
  have hB : ∀ j, j < t.size → (Lib.bytesWorld w 5 t).cell? ⟨w.heap.size, j, none⟩ = some (.int .u8 (t.data.toList.getD j 0).toNat) := fun j hj => Lib.bytesWorld_cell w 5 t j hj
  obtain ⟨W1, hW1⟩ : ∃ W1, W1 = Lib.bytesWorld w 5 t := ⟨_, rfl⟩
  rw [← hW1] at hcv hB ⊢
  clear hW1
  obtain ⟨bs, hL⟩ : ∃ bs, bs = t.data.toList := ⟨_, rfl⟩
  have hLn : bs.length = t.size := by rw [hL, Lib.size_eq]
  rw [← hL] at hB ⊢
  clear hL
  have hmv : IntKind.u64.wrap (IntKind.u64.wrap 18446744073709551616 - 1) = 18446744073709551615 := by
    rw [IntKind.wrap_u64, IntKind.wrap_u64]
    decide
  go_enter Tryd.func65, Tryd.ntmps65
  go_wp2
  go_loop [12, 13, 101] (fun vu vn vi => ∃ (k acc : Nat) (a : Int), vu = .bool false ∧ vn = .int .u64 a ∧ vi = .int .i64 k ∧ k ≤ t.size ∧ Hid (a = (acc : Int) ∧ acc < 18446744073709551616 ∧ p16 0 bs = p16 acc (bs.drop k)))
    (fun _ _ vi => t.size - (RowKit.intOf vi).toNat)
  case atStart => exact ⟨0, 0, 0, rfl, rfl, rfl, by omega, rfl, by omega, rfl⟩
  case round =>
    obtain ⟨k, acc, a, rfl, rfl, rfl, hk, hh⟩ := hrel
    obtain ⟨ha, hacc, hdec⟩ := hh.out
    clear hh
    have a0 : 0 ≤ a := by omega
    have a1 : a < 18446744073709551616 := by omega
    by_cases hkn : k < t.size
    · have hc := hB k hkn
      have hdrop : bs.drop k = bs[k]'(by omega) :: bs.drop (k + 1) := List.drop_eq_getElem_cons (by omega)
      have hget : bs.getD k 0 = bs[k]'(by omega) := by simp [List.getD, List.getElem?_eq_getElem (show k < bs.length by omega)]
      rw [hdrop] at hdec
      rw [hget] at hc
      generalize bs[k]'(by omega) = c at hc hdec
      have hc256 : c.toNat < 256 := c.toNat_lt
      have hlow := fun W => Tryd.internal_strconv_lower (c.toNat : Int) W
      rw [lowc_bits] at hlow
      have hl256 := lowc_lt c
      clear hB hdrop hget
      obtain ⟨C, hC⟩ : ∃ C : Int, C = (c.toNat : Int) := ⟨_, rfl⟩
      obtain ⟨L, hLw⟩ : ∃ L : Int, L = (lowc c : Int) := ⟨_, rfl⟩
      rw [← hC] at hc hlow
      rw [← hLw] at hlow
      have C0 : 0 ≤ C := by omega
      have C1 : C < 256 := by omega
      have L0 : 0 ≤ L := by omega
      have L1 : L < 256 := by omega
      by_cases hdig : 48 ≤ c.toNat ∧ c.toNat ≤ 57
      · have hd := hexVal_dig hdig
        have hd0 : 48 ≤ C := by omega
        have hd1 : C ≤ 57 := by omega
        by_cases hcut : 1152921504606846976 ≤ acc
        · rw [p16_range hd hcut] at hdec
          have icut : 1152921504606846976 ≤ a := by omega
          clear hcut hacc ha hd hdig hC hLw hl256 hc256
          go_wp2
          go_ret2
          first | exact ⟨rfl, rfl⟩ | exact ⟨by rw [hdec]; rfl, rfl⟩
        · have hv : a * 16 + (C - 48) < 18446744073709551616 := by omega
          rw [p16_go hd hcut] at hdec
          have HN : Hid (a * 16 + (C - 48) = ((acc * 16 + (c.toNat - 48) : Nat) : Int) ∧ acc * 16 + (c.toNat - 48) < 18446744073709551616 ∧ p16 0 bs = p16 (acc * 16 + (c.toNat - 48)) (bs.drop (k + 1))) := Lib.hid ⟨by omega, by omega, hdec⟩
          have icut : a < 1152921504606846976 := by omega
          clear hcut hacc ha hd hdig hC hLw hl256 hc256 hdec
          go_wp2_with (go_at_call 74; refine (hlow _).mono ?_; rintro e w' ⟨rfl, rfl⟩)
          refine ⟨⟨k + 1, acc * 16 + (c.toNat - 48), a * 16 + (C - 48), rfl, (by first | rfl | (congr 1; omega)), (by first | rfl | (congr 1; omega)), by omega, HN⟩, by simp [RowKit.intOf]; omega⟩
      · by_cases hlet : 97 ≤ lowc c ∧ lowc c ≤ 102
        · have hd := hexVal_let hdig hlet
          have hn : ¬ (48 ≤ C ∧ C ≤ 57) := by omega
          have l0 : 97 ≤ L := by omega
          have l1 : L ≤ 102 := by omega
          have h95 := lowc_95 (c := c)
          have hcc : C < 48 ∨ (57 < C ∧ C ≠ 95) := by omega
          clear h95
          by_cases hcut : 1152921504606846976 ≤ acc
          · rw [p16_range hd hcut] at hdec
            have icut : 1152921504606846976 ≤ a := by omega
            clear hcut hacc ha hd hdig hlet hC hLw hl256 hc256 hn
            rcases hcc with hcc | ⟨hcc, hc95⟩
            all_goals
              go_wp2_with (go_at_call 74; refine (hlow _).mono ?_; rintro e w' ⟨rfl, rfl⟩)
              go_ret2
              first | exact ⟨rfl, rfl⟩ | exact ⟨by rw [hdec]; rfl, rfl⟩
          · have hv : a * 16 + (L - 87) < 18446744073709551616 := by omega
            rw [p16_go hd hcut] at hdec
            have HN : Hid (a * 16 + (L - 87) = ((acc * 16 + (lowc c - 87) : Nat) : Int) ∧ acc * 16 + (lowc c - 87) < 18446744073709551616 ∧ p16 0 bs = p16 (acc * 16 + (lowc c - 87)) (bs.drop (k + 1))) := Lib.hid ⟨by omega, by omega, hdec⟩
            have icut : a < 1152921504606846976 := by omega
            clear hcut hacc ha hd hdig hlet hn hC hLw hl256 hc256 hdec
            rcases hcc with hcc | ⟨hcc, hc95⟩
            all_goals
              go_wp2_with (go_at_call 74; refine (hlow _).mono ?_; rintro e w' ⟨rfl, rfl⟩)
              refine ⟨⟨k + 1, acc * 16 + (lowc c - 87), a * 16 + (L - 87), rfl, (by first | rfl | (congr 1; omega)), (by first | rfl | (congr 1; omega)), by omega, HN⟩, by simp [RowKit.intOf]; omega⟩
        · have hd := hexVal_no hdig hlet
          rw [p16_none hd] at hdec
          have hcc : C < 48 ∨ (57 < C ∧ C ≠ 95) ∨ C = 95 := by omega
          have hll : L < 97 ∨ (103 ≤ L ∧ L ≤ 122) ∨ 122 < L := by omega
          clear hacc ha hd hdig hlet hLw hl256 hc256
          clear hC
          rcases hcc with hcc | ⟨hcc, hc95⟩ | rfl <;> rcases hll with hll | ⟨hll, hlu⟩ | hll
          all_goals
            go_wp2_with (go_at_call 74; refine (hlow _).mono ?_; rintro e w' ⟨rfl, rfl⟩)
            go_ret2
            first | exact ⟨rfl, rfl⟩ | exact ⟨by rw [hdec]; rfl, rfl⟩
    · have hkk : k = t.size := by omega
      subst hkk
      have hF : p16 acc (bs.drop t.size) = .ok acc := by rw [List.drop_eq_nil_of_le (by omega)]; rfl
      rw [hF] at hdec
      subst ha
      clear hacc hF a0 a1
      go_wp2
      go_ret2
      first | exact ⟨rfl, rfl⟩ | exact ⟨by rw [hdec]; rfl, rfl⟩
end Go.Proofs
end
section
namespace Go.Proofs
open Go.RowKit
set_option linter.unusedVariables false
set_option linter.unusedSimpArgs false

/-- What the library's variables hold: all that is read of them. -/
structure Ld (w : World) : Prop where
  ta : Ta w
  syn : ∃ te pe, w.cell? ⟨2, 0, none⟩ = some (.iface te pe)
  rng : ∃ te pe, w.cell? ⟨3, 0, none⟩ = some (.iface te pe)
  len : ∃ m, w.cell? ⟨0, 0, none⟩ = some (.int .i64 m)
theorem Ld.below {w w' : World} (h : Ld w) (hb : Below w.heap.size w w') : Ld w' := by
  have hc : ∀ (b : Nat) v, w.cell? ⟨b, 0, none⟩ = some v → w'.cell? ⟨b, 0, none⟩ = some v := fun b v hv => (hb.cell (p := ⟨b, 0, none⟩) (World.block_lt_of_cell? w _ hv)).trans hv
  obtain ⟨t1, p1, h1⟩ := h.syn
  obtain ⟨t2, p2, h2⟩ := h.rng
  obtain ⟨m, h3⟩ := h.len
  exact ⟨h.ta.below hb, ⟨t1, p1, hc _ _ h1⟩, ⟨t2, p2, hc _ _ h2⟩, ⟨m, hc _ _ h3⟩⟩
theorem bytesWorld_below' (w : World) (t : ByteArray) : Below w.heap.size w (Lib.bytesWorld w 5 t) := Lib.bytesWorld_below _ _ _
theorem atoi_any (s : List UInt8) (hs : s.length ≤ 1000000) (w : World) (h : Ld w) : Calls Tryd.prog 57 #[.string ⟨s.toArray⟩] w fun e w' => (∃ ev, e = .returned (.tuple #[.int .i64 (atoiV s), ev])) ∧ Below w.heap.size w w' := by
  have hz : (⟨s.toArray⟩ : ByteArray).size ≤ 1000000 := by rw [str_size]; exact hs
  have hd : (⟨s.toArray⟩ : ByteArray).data.toList = s := rfl
  obtain ⟨t1, p1, h1⟩ := h.syn
  obtain ⟨t2, p2, h2⟩ := h.rng
  rcases ha : Lib.atoiAll s with v | _ | _
  ·
    refine (Tryd.strconv_Atoi_ok ⟨s.toArray⟩ (by omega) v ha w).mono ?_
    rintro e w' ⟨rfl, hw⟩
    refine ⟨⟨_, by unfold atoiV; rw [ha]⟩, ?_⟩
    rcases hw with rfl | ⟨t, rfl⟩
    · exact Below.refl _ _
    · exact bytesWorld_below' _ _
  ·
    refine (Tryd.strconv_Atoi_syntax ⟨s.toArray⟩ (by omega) ha _ w h1 (.inr ⟨_, _, rfl⟩)).mono ?_
    rintro e w' ⟨N, rfl, _, _, hb⟩
    exact ⟨⟨_, by unfold atoiV; rw [ha]⟩, hb⟩
  ·
    refine (Tryd.strconv_Atoi_range ⟨s.toArray⟩ (by omega) ha _ w h2 (.inr ⟨_, _, rfl⟩)).mono ?_
    rintro e w' ⟨N, rfl, _, _, hb⟩
    exact ⟨⟨_, by unfold atoiV; rw [ha]⟩, hb⟩
theorem atoiV_in (s : List UInt8) : -9223372036854775808 ≤ atoiV s ∧ atoiV s ≤ 9223372036854775807 := by
  unfold atoiV
  rcases ha : Lib.atoiAll s with v | _ | _
  · exact Lib.atoiAll_bounds ha
  · show (-9223372036854775808 : Int) ≤ 0 ∧ (0 : Int) ≤ 9223372036854775807; exact ⟨by decide, by decide⟩
  · simp only; unfold Lib.atoiSat; split <;> omega
set_option maxRecDepth 100000 in
theorem uint16_empty (w : World) : Calls Tryd.prog 65 #[.string ⟨#[]⟩, .int .i64 16, .int .i64 64] w fun e w' => e = .returned (.tuple #[.int .u64 0, .iface 112 (.int .i64 2)]) ∧ w' = w := by
  go_enter Tryd.func65, Tryd.ntmps65
  go_wp2
  go_ret2
  exact ⟨rfl, rfl⟩
theorem uint16_all (s : List UInt8) (hs : s.length ≤ 1000000) (w : World) : Calls Tryd.prog 65 #[.string ⟨s.toArray⟩, .int .i64 16, .int .i64 64] w fun e w' => e = .returned (Lib.uintTuple 112 (p16E s)) ∧ Below w.heap.size w w' := by
  by_cases h : s = []
  · subst h
    refine (uint16_empty w).mono ?_
    rintro e w' ⟨rfl, rfl⟩
    exact ⟨rfl, Below.refl _ _⟩
  · refine (uint16_in ⟨s.toArray⟩ (by rw [str_size]; exact fun e => h (List.length_eq_zero_iff.1 e)) (by rw [str_size]; exact hs) w).mono ?_
    rintro e w' ⟨rfl, rfl⟩
    exact ⟨by unfold p16E; rw [if_neg h], bytesWorld_below' _ _⟩
set_option maxHeartbeats 1000000 in
set_option maxRecDepth 100000 in
theorem uint_any (s : List UInt8) (hs : s.length ≤ 1000000) (w : World) (h : Ld w) : Calls Tryd.prog 56 #[.string ⟨s.toArray⟩, .int .i64 16, .int .i64 64] w fun e w' => (∃ ev, e = .returned (.tuple #[.int .u64 (p16V s), ev])) ∧ Below w.heap.size w w' := by
  have hU := uint16_all s hs w
  rw [p16V_end]
  obtain ⟨sB, hsB⟩ : ∃ sB : ByteArray, sB = ⟨s.toArray⟩ := ⟨_, rfl⟩
  have hz : sB.size ≤ 1000000 := by rw [hsB, str_size]; exact hs
  rw [← hsB] at hU ⊢
  rcases hp : p16E s with v | _ | _
  ·
    rw [hp] at hU
    simp only [Lib.uintTuple] at hU ⊢
    clear hsB
    go_enter Tryd.func56, Tryd.ntmps56
    go_wp2_with (go_at_call 65; refine hU.mono ?_; rintro e w1 ⟨rfl, hb⟩)
    go_ret2
    exact ⟨⟨_, rfl⟩, hb⟩
  ·
    rw [hp] at hU
    simp only [Lib.uintTuple] at hU ⊢
    have hE : ∀ W, Below w.heap.size w W → Calls Tryd.prog 66 #[.string ⟨#[80, 97, 114, 115, 101, 85, 105, 110, 116]⟩, .string sB, .int .i64 16, .int .i64 64, .iface 112 (.int .i64 2)] W fun e w' => (∃ N, e = .returned (.iface 113 (.pointer (some ⟨N, 0, none⟩)))) ∧ Below W.heap.size W w' := fun W hb => by
      obtain ⟨t1, p1, h1⟩ := (h.below hb).syn
      refine (Tryd.strconv_toError_syntax ⟨#[80, 97, 114, 115, 101, 85, 105, 110, 116]⟩ sB 16 64 _ W (by omega) h1 (.inr ⟨_, _, rfl⟩)).mono ?_
      rintro e w' ⟨N, he, _, _, hb⟩
      exact ⟨⟨N, he⟩, hb⟩
    clear hsB
    go_enter Tryd.func56, Tryd.ntmps56
    go_wp2_with (first
      | (go_at_call 65; refine hU.mono ?_; rintro e w1 ⟨rfl, hb⟩)
      | (go_at_call 66; refine (hE _ hb).mono ?_; rintro e w2 ⟨⟨N, rfl⟩, hb2⟩))
    go_ret2
    exact ⟨⟨_, rfl⟩, hb.trans (hb2.mono hb.size)⟩
  ·
    rw [hp] at hU
    simp only [Lib.uintTuple] at hU ⊢
    have hE : ∀ W, Below w.heap.size w W → Calls Tryd.prog 66 #[.string ⟨#[80, 97, 114, 115, 101, 85, 105, 110, 116]⟩, .string sB, .int .i64 16, .int .i64 64, .iface 112 (.int .i64 1)] W fun e w' => (∃ N, e = .returned (.iface 113 (.pointer (some ⟨N, 0, none⟩)))) ∧ Below W.heap.size W w' := fun W hb => by
      obtain ⟨t1, p1, h1⟩ := (h.below hb).rng
      refine (Tryd.strconv_toError_range ⟨#[80, 97, 114, 115, 101, 85, 105, 110, 116]⟩ sB 16 64 _ W (by omega) h1 (.inr ⟨_, _, rfl⟩)).mono ?_
      rintro e w' ⟨N, he, _, _, hb⟩
      exact ⟨⟨N, he⟩, hb⟩
    clear hsB
    go_enter Tryd.func56, Tryd.ntmps56
    go_wp2_with (first
      | (go_at_call 65; refine hU.mono ?_; rintro e w1 ⟨rfl, hb⟩)
      | (go_at_call 66; refine (hE _ hb).mono ?_; rintro e w2 ⟨⟨N, rfl⟩, hb2⟩))
    go_ret2
    exact ⟨⟨_, rfl⟩, hb.trans (hb2.mono hb.size)⟩
end Go.Proofs
end
section
namespace Go.Proofs
open Go.RowKit
set_option linter.unusedVariables false
set_option linter.unusedSimpArgs false

def fillP (m n j : Nat) : List UInt8 := (List.range m).map fun i => if i < m - j then 0 else UInt8.ofNat (n / 256 ^ (m - 1 - i))
theorem fillP_length (m n j : Nat) : (fillP m n j).length = m := by simp [fillP]
theorem fillP_all (m n : Nat) : fillP m n m = bytesOf m n := by
  unfold fillP bytesOf
  apply List.map_congr_left
  intro i _
  rw [if_neg (by omega)]
theorem fillP_set {m n j : Nat} (h : j < m) : (fillP m n j).set (m - 1 - j) (UInt8.ofNat (n / 256 ^ j)) = fillP m n (j + 1) := by
  apply List.ext_getElem
  · simp [fillP]
  · intro i h1 h2
    rw [List.getElem_set]
    simp only [fillP, List.getElem_map, List.getElem_range]
    split
    · rename_i he
      rw [if_neg (by omega), ← he, show m - 1 - (m - 1 - j) = j by omega]
    · rename_i he
      by_cases hi : i < m - j
      · rw [if_pos hi, if_pos (by omega)]
      · rw [if_neg hi, if_neg (by omega)]
theorem bys_set (l : List UInt8) (k : Nat) (x : UInt8) : bys (l.set k x) = (bys l).set k (.int .u8 x.toNat) := by simp [Lib.byteCells, List.map_set]
theorem made_zero (m n : Nat) : (madeCells (Value.int .u8 0).cells (m * 1)).toList = bys (fillP m n 0) := by
  apply List.ext_getElem?
  intro k
  by_cases hk : k < m
  · simp [madeCells, fillP, Lib.byteCells, hk, Value.cells, Nat.mod_one]
  · rw [List.getElem?_eq_none (by simp [madeCells, Value.cells]; omega), List.getElem?_eq_none (by simp [fillP, Lib.byteCells]; omega)]
set_option maxHeartbeats 1000000 in
set_option maxRecDepth 100000 in
theorem unraw_any (s : List UInt8) (hs : s.length ≤ 1000000) (w : World) (h : Ld w) : Calls Tryd.prog 45 #[.string ⟨s.toArray⟩] w fun e w' => ∃ R, e = .returned R ∧ Row w' 5 1 R (unrawP s).length (bys (unrawP s)) ∧ (∀ k ∈ foot R, w.heap.size ≤ k) ∧ Below w.heap.size w w' := by
  have hU := uint_any s hs w h
  obtain ⟨n, hn⟩ : ∃ n, n = p16V s := ⟨_, rfl⟩
  obtain ⟨m, hm⟩ : ∃ m, m = min (s.length / 2) 4 := ⟨_, rfl⟩
  have hres : unrawP s = fillP m n m := by unfold unrawP; rw [fillP_all, hm, hn]
  have hn64 : n < 18446744073709551616 := by
    rw [hn]; unfold p16V
    split
    · omega
    · rcases hp : p16 0 s with v | _ | _
      · exact p16_lt s 0 v (by omega) hp
      · simp
      · simp
  rw [hres, fillP_length]
  rw [← hn] at hU
  obtain ⟨sB, hsB⟩ : ∃ sB : ByteArray, sB = ⟨s.toArray⟩ := ⟨_, rfl⟩
  have hz : sB.size = s.length := by rw [hsB, str_size]
  rw [← hsB] at hU ⊢
  obtain ⟨i0, hi0, hz0, hz1, hz2⟩ := info_parts byte_info
  have hdiv : (min ((sB.size : Int) / 2) 4) = (m : Int) := by rw [hm]; omega
  have hz3 : sB.size ≤ 1000000 := by omega
  have hm4 : m ≤ 4 := by omega
  have hmk : ∀ W, ∃ w', (Instr.makeSlice 22 (.int .i64 (min ((sB.size : Int) / 2) 4)) (.int .i64 (min ((sB.size : Int) / 2) 4))).run Tryd.prog W = .ok (.slice (some ⟨W.heap.size, 0, none⟩) m m) w' ∧ Row w' 5 1 (.slice (some ⟨W.heap.size, 0, none⟩) m m) m (bys (fillP m n 0)) ∧ Below W.heap.size W w' := fun W => by
    obtain ⟨w', h1, h2, h3⟩ := run_makeSlice_full (P := Tryd.prog) W W.heap.size 22 5 i0 _ 1 Tryd.underlying22 hi0 hz0 hz1 .i64 .i64 m (by omega) (by rw [hz2]; omega) (by unfold maxLen; omega) (Nat.le_refl _)
    rw [← hdiv] at h1
    rw [made_zero m n] at h2
    exact ⟨w', h1, Row.of_own h2, (Below.refl _ W).grown h3 (Nat.le_refl _) (fun k e => by cases e)⟩
  have hmkH := Lib.hid hmk
  clear hres hn hm hsB hz hmk hdiv hi0 hz0 hz1 hz2
  go_enter Tryd.func45, Tryd.ntmps45
  go_wp2_with (go_at_call 56; refine hU.mono ?_; rintro e w1 ⟨⟨ev, rfl⟩, hb1⟩; obtain ⟨w2, hrun, hrow, hb2⟩ := hmkH.out w1; have hrowH := Lib.hid hrow; clear hrow)
  have hg : w.heap.size ≤ w1.heap.size := hb1.size
  have hb3 := hb1.trans (hb2.mono hg)
  obtain ⟨g, hgg⟩ : ∃ g, g = w1.heap.size := ⟨_, rfl⟩
  rw [← hgg] at hrowH hg ⊢
  clear hgg hb1 hb2 hrun
  go_loopw [3, 6] (fun nv av wr => ∃ (j : Nat), nv = .int .u64 (n / 256 ^ j : Nat) ∧ av = .int .i64 ((m : Int) - 1 - j) ∧ j ≤ m ∧ Hid (Row wr 5 1 (.slice (some ⟨g, 0, none⟩) m m) m (bys (fillP m n j)) ∧ Below w.heap.size w wr)) (fun _ av _ => (intOf av + 1).toNat)
  case atStart => exact ⟨0, by simp, by simp, by omega, Lib.hid ⟨hrowH.out, hb3⟩⟩
  case round =>
    obtain ⟨j, rfl, rfl, hj, hI⟩ := hrel
    by_cases hjm : j < m
    · obtain ⟨q, hq⟩ : ∃ q, q = n / 256 ^ j := ⟨_, rfl⟩
      have hNlt : q < 18446744073709551616 := by rw [hq]; exact Nat.lt_of_le_of_lt (Nat.div_le_self _ _) hn64
      have hq2 : q / 256 = n / 256 ^ (j + 1) := by rw [hq, Nat.pow_succ, ← Nat.div_div_eq_div_mul]
      rw [← hq]
      obtain ⟨N, hN⟩ : ∃ N : Int, N = (q : Int) := ⟨_, rfl⟩
      obtain ⟨d, hd⟩ : ∃ d, d = UInt8.ofNat q := ⟨_, rfl⟩
      obtain ⟨D, hD⟩ : ∃ D : Int, D = (d.toNat : Int) := ⟨_, rfl⟩
      obtain ⟨N2, hN2⟩ : ∃ N2 : Int, N2 = ((q / 256 : Nat) : Int) := ⟨_, rfl⟩
      obtain ⟨t, ht⟩ : ∃ t, t = m - 1 - j := ⟨_, rfl⟩
      have htI : (m : Int) - 1 - j = (t : Int) := by omega
      have htm : t < m := by omega
      obtain ⟨g', cap', hv, _, _, hcell, hfr, hlt⟩ := hI.out.1.form (by omega)
      simp only [Value.slice.injEq, Option.some.injEq, Addr.mk.injEq] at hv
      obtain ⟨⟨rfl, _⟩, _, rfl⟩ := hv
      have hct : wr.cell? ⟨g, t, none⟩ = some (.int .u8 ((fillP m n j)[t]'(by rw [fillP_length]; exact htm)).toNat) := hcell t _ (bys_at (List.getElem?_eq_getElem _))
      have hft := hfr t
      rw [← hN, htI]
      have b1 : N % 256 = D := by rw [hN, hD, hd, UInt8.toNat_ofNat']; omega
      have b2 : N / 256 = N2 := by rw [hN, hN2]; omega
      have hK := Lib.hid (⟨hq, hq2, hN2, hd, hD, ht, htI⟩ : _ ∧ _ ∧ _ ∧ _ ∧ _ ∧ _ ∧ _)
      have hN0 : 0 ≤ N := by omega
      have hN1 : N < 18446744073709551616 := by omega
      clear hN ht htI hcell hfr hN2 hd hD hq hq2 hNlt
      go_wp2
      go_roundw
      case rel =>
        obtain ⟨hq, hq2, hN2, hd, hD, ht, htI⟩ := hK.out
        refine ⟨j + 1, by rw [hN2, hq2], by congr 1; omega, by omega, Lib.hid ⟨?_, hI.out.2.setCell (p := ⟨g, t, none⟩) hg _⟩⟩
        have := hI.out.1.set_ (j := t) (by omega) (.int .u8 D)
        rw [hD, hd, hq, ht, ← bys_set, fillP_set hjm] at this
        rw [hD, hd, hq, ht]
        exact this
      case measure =>
        simp [intOf]
    · obtain rfl : j = m := by omega
      have hq : ¬ (0 : Int) ≤ (j : Int) - 1 - j := by omega
      go_wp2
      go_ret
      exact ⟨_, rfl, hI.out.1, fun k hk => by simp [foot_some] at hk; omega, hI.out.2⟩
end Go.Proofs
end
section
namespace Go.Proofs
open Go.RowKit
set_option linter.unusedVariables false
set_option linter.unusedSimpArgs false

/-! ### Cutting; an instruction out of its line -/
theorem cut_len (s : List UInt8) (c : UInt8) : (Lib.cut s [c]).1.length ≤ s.length ∧ (Lib.cut s [c]).2.1.length ≤ s.length := by
  rcases split_at c s with h | ⟨l, r, rfl, h⟩
  · rw [cut_no h]; simp
  · rw [cut_at h]; simp; omega
theorem cut_any (s : List UInt8) (c : UInt8) (hs : s.length ≤ 1000000) (w : World) (h : Ld w) : Calls Tryd.prog 30 #[.string ⟨s.toArray⟩, .string ⟨#[c]⟩] w fun e w' => e = .returned (.tuple #[.string ⟨(Lib.cut s [c]).1.toArray⟩, .string ⟨(Lib.cut s [c]).2.1.toArray⟩, .bool (Lib.cut s [c]).2.2]) ∧ ∃ n, w' = w.drewN n := by
  obtain ⟨m, hm⟩ := h.len
  exact Tryd.strings_Cut ⟨s.toArray⟩ ⟨#[c]⟩ m w (by rw [str_size]; omega) hm
theorem Ld.drewN {w : World} (h : Ld w) (n : Nat) : Ld (w.drewN n) := h.below (below_drewN (Below.refl _ _) n)
theorem FormsAt.drewN {w : World} {m : Nat} (h : FormsAt w m) (n : Nat) : FormsAt (w.drewN n) m := h.below (below_drewN (Below.refl _ _) n)
def foldP (o : UInt8) (R : List UInt8) (ls : List UInt8) : Ins × List UInt8 := ls.foldl instFold (⟨o, 0, 0, 0⟩, R)
theorem foldP_snoc (o : UInt8) (R ls : List UInt8) (l : UInt8) : foldP o R (ls ++ [l]) = instFold (foldP o R ls) l := by simp [foldP]
theorem foldP_len (o : UInt8) (R ls : List UInt8) : (foldP o R ls).2.length ≤ R.length := by
  have : ∀ (ls : List UInt8) (st : Ins × List UInt8), (ls.foldl instFold st).2.length ≤ st.2.length := by
    intro ls
    induction ls with
    | nil => intro st; exact Nat.le_refl _
    | cons l r ih => intro st; exact Nat.le_trans (ih (instFold st l)) (cut_len st.2 32).2
  exact this ls _
/-- Of the entries that were gone over none has the word. -/
def GoneW (wd : List UInt8) (left : Lit → Bool) : Prop := ∀ o f, formAt o = some f → left (keyL o) = false → f.1 ≠ wd
theorem form_mem {o : UInt8} {f : List UInt8 × List UInt8} (h : formAt o = some f) : (o, f) ∈ formsL := by
  unfold formAt at h
  rw [Option.map_eq_some_iff] at h
  obtain ⟨e, he, rfl⟩ := h
  have h1 := List.find?_some he
  simp only [beq_iff_eq] at h1
  have h2 := List.mem_of_find?_eq_some he
  rw [← h1]; exact h2
theorem find_word {o : UInt8} {f : List UInt8 × List UInt8} (h : formAt o = some f) : formsL.find? (fun e => e.2.1 == f.1) = some (o, f) := by
  have hm := form_mem h
  simp only [formsL, List.mem_cons, List.not_mem_nil, or_false, Prod.mk.injEq] at hm
  rcases hm with ⟨rfl, rfl⟩ | ⟨rfl, rfl⟩ | ⟨rfl, rfl⟩ | ⟨rfl, rfl⟩ | ⟨rfl, rfl⟩ | ⟨rfl, rfl⟩ | ⟨rfl, rfl⟩ | ⟨rfl, rfl⟩ | ⟨rfl, rfl⟩ <;> decide
theorem find_none {wd : List UInt8} (h : ∀ o f, formAt o = some f → f.1 ≠ wd) : formsL.find? (fun e => e.2.1 == wd) = none := by
  rw [List.find?_eq_none]
  intro e he
  simp only [beq_iff_eq]
  refine h e.1 e.2 ?_
  simp only [formsL, List.mem_cons, List.not_mem_nil, or_false] at he
  rcases he with rfl | rfl | rfl | rfl | rfl | rfl | rfl | rfl | rfl <;> rfl
theorem form_at_letters {o : UInt8} {f : List UInt8 × List UInt8} (h : formAt o = some f) : (∀ l ∈ f.2, isLetter l) ∧ f.1.length ≤ 5 ∧ f.2.length ≤ 3 := by
  have hm := form_mem h
  simp only [formsL, List.mem_cons, List.not_mem_nil, or_false, Prod.mk.injEq] at hm
  rcases hm with ⟨rfl, rfl⟩ | ⟨rfl, rfl⟩ | ⟨rfl, rfl⟩ | ⟨rfl, rfl⟩ | ⟨rfl, rfl⟩ | ⟨rfl, rfl⟩ | ⟨rfl, rfl⟩ | ⟨rfl, rfl⟩ | ⟨rfl, rfl⟩ <;> refine ⟨?_, by decide, by decide⟩ <;> intro l hl <;> simp at hl <;> (try rcases hl with rfl | rfl | rfl) <;> (try rcases hl with rfl | rfl) <;> (try subst hl) <;> simp [isLetter]
theorem look_of {kl : Lit} {o : UInt8} {f : List UInt8 × List UInt8} (hk : kl = keyL o) (hat : ∀ zd, formsD.atKey kl zd = formD f) : formAt o = some f := by
  subst hk
  cases hf : formAt o with
  | none =>
    have h1 := hat (formD ([], [0]))
    have h2 := hat (formD ([], []))
    rw [atKey_forms, hf] at h1 h2
    have := formD_inj (h1.trans h2.symm)
    simp at this
  | some g =>
    have h1 := hat (formD ([], []))
    rw [atKey_forms, hf] at h1
    rw [formD_inj h1]
set_option maxHeartbeats 4000000 in
set_option maxRecDepth 100000 in
theorem inst_any (s : List UInt8) (hs : s.length ≤ 1000000) (m : Nat) (w : World) (hF : FormsAt w m) (hL : Ld w) : Calls Tryd.prog 46 #[.map (some m), .string ⟨s.toArray⟩] w fun e w' => e = .returned (instP s).val ∧ Below w.heap.size w w' := by
  have hb0 := (Below.refl w.heap.size w).alloc (Nat.le_refl _) (.cells #[.int .u8 0, .int .u8 0, .int .u8 0, .int .u8 0] 26)
  have hcut := cut_any s 32 hs _ (hL.below hb0)
  have hcl := cut_len s 32
  obtain ⟨W, hW⟩ : ∃ W, W = (Lib.cut s [32]).1 := ⟨_, rfl⟩
  obtain ⟨R, hR⟩ : ∃ R, R = (Lib.cut s [32]).2.1 := ⟨_, rfl⟩
  obtain ⟨E, hE⟩ : ∃ E, E = (Lib.cut s [32]).2.2 := ⟨_, rfl⟩
  have hres : instP s = match formsL.find? (fun e => e.2.1 == W) with | none => Ins.zero | some e => (e.2.2.foldl instFold (⟨e.1, 0, 0, 0⟩, R)).1 := by unfold instP; rw [hW, hR]; rfl
  rw [← hW, ← hR, ← hE] at hcut
  rw [← hW, ← hR] at hcl
  obtain ⟨sB, hsB⟩ : ∃ sB : ByteArray, sB = ⟨s.toArray⟩ := ⟨_, rfl⟩
  rw [← hsB] at hcut
  rw [← hsB]
  obtain ⟨res, hr⟩ : ∃ res, res = instP s := ⟨_, rfl⟩
  rw [← hr] at hres ⊢
  have hresH := Lib.hid hres
  have hlt := hF.lt
  obtain ⟨W0, hW0⟩ : ∃ W0, W0 = w.alloc (.cells #[.int .u8 0, .int .u8 0, .int .u8 0, .int .u8 0] 26) := ⟨_, rfl⟩
  have hr0 : Blk W0 w.heap.size 26 #[.int .u8 0, .int .u8 0, .int .u8 0, .int .u8 0] := by rw [hW0]; exact Blk.new w 26 _
  have hs0 : W0.heap.size = w.heap.size + 1 := by rw [hW0]; simp
  rw [← hW0] at hcut hb0
  have HF0 := hF.below hb0
  have HL0 := hL.below hb0
  have hW0H := Lib.hid hW0
  clear hW hR hE hsB hr hres hW0 hF
  have hLH := Lib.hid hL
  clear hL
  go_enter Tryd.func46, Tryd.ntmps46
  go_wp2_with (first
    | (go_at_call 30; rw [← hW0H.out]; refine hcut.mono ?_; rintro e w1 ⟨rfl, nq, rfl⟩; have HOWN := Lib.hid (HF0.drewN nq))
    | (at_range; refine wpList_range_own _ rfl _ 48 rfl 24 72 law24 Tryd.underlying48 formElem m 9 formsD rfl HOWN.out ?_; intro w0 hrg0 hg0 hsz0))
  go_frame
  rw [show (W0.drewN nq).heap.size = W0.heap.size from rfl] at hrg0 hsz0 ⊢
  have hb1 : Below w.heap.size w w0 := (below_drewN hb0 nq).grown hg0 (by show w.heap.size ≤ W0.heap.size; omega) (fun k e => by cases e)
  have hr1 : Blk w0 w.heap.size 26 #[.int .u8 0, .int .u8 0, .int .u8 0, .int .u8 0] := (hr0.drewN nq).same (hg0.block _ (by show w.heap.size < W0.heap.size; omega) (by simp))
  obtain ⟨r, hrr⟩ : ∃ r, r = W0.heap.size := ⟨_, rfl⟩
  have hrw : w.heap.size < r := by omega
  rw [← hrr] at hrg0 ⊢
  have HR0 := Lib.hid hrg0
  have HK0 := Lib.hid (⟨hb1, hr1⟩ : _ ∧ _)
  clear hrg0 hb1 hr1 hrr hg0 hsz0 hr0 hs0 HF0 HL0 hW0H hcut hb0 HOWN
  go_loopw [5, 6] (fun wv rv wr => wv = .string ⟨W.toArray⟩ ∧ rv = .string ⟨R.toArray⟩ ∧ ∃ (left : Lit → Bool) (cnt : Nat), Hid (wr.ranges Tryd.prog 24 formElem m r 9 formsD left cnt ∧ (Below w.heap.size w wr ∧ Blk wr w.heap.size 26 #[.int .u8 0, .int .u8 0, .int .u8 0, .int .u8 0]) ∧ GoneW W left)) (fun _ _ wr => wr.rangeLeft m r)
  case atStart => exact ⟨rfl, rfl, _, _, Lib.hid ⟨HR0.out, HK0.out, fun o f hf hl => by
    have : Maps.has formsD (keyL o) = true := Maps.has_true_of_atKey (y := formD f) (fun z => by rw [atKey_forms, hf])
    rw [this] at hl; cases hl⟩⟩
  case round =>
    obtain ⟨rfl, rfl, left, cnt, HI⟩ := hrel
    go_wp2_with (at_next; refine wpList_next_ranges _ rfl _ rfl 24 law24 formElem (fun o : UInt8 => Value.int .u8 o.toNat) formV (fun key l hk => by obtain ⟨o, h1, _⟩ := key_inv hk; exact ⟨o, h1⟩) (fun v y hv => by obtain ⟨f, h1, _⟩ := formElem_inv hv; exact ⟨f, h1⟩) m r 9 formsD left cnt rfl HI.out.1 ?_ ?_)
    · intro _ hl0
      have hnone : res = Ins.zero := by
        have := hresH.out
        rw [find_none (fun o f hf => HI.out.2.2 o f hf (hl0 _))] at this
        exact this
      have HN := Lib.hid hnone
      clear hl0 hnone
      have hbl := HI.out.2.1.2
      have r0 := hbl.cell 0
      have r1 := hbl.cell 1
      have r2 := hbl.cell 2
      have r3 := hbl.cell 3
      have f0 := hbl.frozen 0
      have f1 := hbl.frozen 1
      have f2 := hbl.frozen 2
      have f3 := hbl.frozen 3
      simp only [List.getElem?_toArray, List.getElem?_cons_zero, List.getElem?_cons_succ] at r0 r1 r2 r3
      clear hbl
      go_wp2
      have q : ∀ i, ((((wr.setCell ⟨w.heap.size, 0, none⟩ (.int .u8 0)).setCell ⟨w.heap.size, 1, none⟩ (.int .u8 0)).setCell ⟨w.heap.size, 2, none⟩ (.int .u8 0)).setCell ⟨w.heap.size, 3, none⟩ (.int .u8 0)).cell? ⟨w.heap.size, i, none⟩ = (#[Value.int .u8 0, .int .u8 0, .int .u8 0, .int .u8 0] : Array Value)[i]? := fun i => (putIns_at (y := Ins.zero) HI.out.2.1.2 Ins.zero).cell i
      have q0 := q 0
      have q1 := q 1
      have q2 := q 2
      have q3 := q 3
      simp only [List.getElem?_toArray, List.getElem?_cons_zero, List.getElem?_cons_succ] at q0 q1 q2 q3
      refine bodyPost_ret (v := Ins.zero.val) ?_ rfl ⟨by rw [HN.out], putIns_below HI.out.2.1.1 (Nat.le_refl _) Ins.zero⟩
      simp [results, Tryd.results46, go_sem, q0, q1, q2, q3, Ins.val, Ins.zero]
    · intro o f1 f2 kl y1 y2 w1 cnt1 hkey hlk hv hat hrg1 hlt1 hg1 hs1 hen
      have hkl : kl = keyL o := Option.some.inj (hkey.symm.trans (key_of_op o))
      have hfo : formAt o = some (f1, f2) := look_of hkl (fun zd => by
        rw [hat zd]
        have := Option.some.inj ((formElem_V (f1, f2)).symm.trans hv)
        exact (Prod.mk.inj this).1.symm)
      have hb1 : Below w.heap.size w w1 := HI.out.2.1.1.grown hg1 (by have := HI.out.2.1.1.size; omega) (fun k e => by cases e; omega)
      have hr1 : Blk w1 w.heap.size 26 #[.int .u8 0, .int .u8 0, .int .u8 0, .int .u8 0] := HI.out.2.1.2.same (hg1.block _ HI.out.2.1.2.lt (by simp; omega))
      obtain ⟨hlet, hl1, hl2⟩ := form_at_letters hfo
      simp only at hlet hl1 hl2
      unfold formV at hen ⊢
      simp only at hen ⊢
      have HR1 := Lib.hid hrg1
      have HLT := Lib.hid hlt1
      have HK1 := Lib.hid (⟨hb1, hr1, hfo, hlet, hl1, hl2, hkl⟩ : _ ∧ _ ∧ _ ∧ _ ∧ _ ∧ _ ∧ _)
      clear hkey hlk hv hat hrg1 hlt1 hg1 hs1 hb1 hr1 hfo hlet hl1 hl2 hkl
      by_cases hw : f1 = W
      · subst hw
        have hres : res = (foldP o R f2).1 := by
          have := hresH.out
          rw [find_word HK1.out.2.2.1] at this
          exact this
        have HN := Lib.hid hres
        have hRl := hcl.2
        obtain ⟨F, hFF⟩ : ∃ F, F = w1.heap.size := ⟨_, rfl⟩
        have hFH := Lib.hid hFF
        have hFr : w.heap.size < F := by rw [hFF]; exact HK1.out.2.1.lt
        clear hres
        go_wp2
        rw [← hFF]
        obtain ⟨Wi, hWi⟩ : ∃ Wi, Wi = (((w1.alloc (.cells #[.string ⟨f1.toArray⟩, .string ⟨f2.toArray⟩] 72)).alloc (.cells #[.int .u8 o.toNat, .int .u8 0, .int .u8 0, .int .u8 0] 26)).iter ⟨f2.toArray⟩ 0) := ⟨_, rfl⟩
        have hs0 : Hid (Wi.heap[F + 1 + 1]? = some (.stringIter ⟨f2.toArray⟩ 0) ∧ Blk Wi (F + 1) 26 (⟨o, 0, 0, 0⟩ : Ins).arr ∧ Blk Wi w.heap.size 26 #[.int .u8 0, .int .u8 0, .int .u8 0, .int .u8 0] ∧ Below w.heap.size w Wi) := by
          obtain ⟨hb1, hr1, _⟩ := HK1.out
          have hsz := hb1.size
          refine Lib.hid ⟨?_, ?_, ?_, ?_⟩
          · have := World.iter_heap ((w1.alloc (.cells #[.string ⟨f1.toArray⟩, .string ⟨f2.toArray⟩] 72)).alloc (.cells #[.int .u8 o.toNat, .int .u8 0, .int .u8 0, .int .u8 0] 26)) ⟨f2.toArray⟩ 0
            rw [hWi, hFF]; simpa using this
          · rw [hWi, hFF]
            have := (Blk.at (w1.alloc (.cells #[.string ⟨f1.toArray⟩, .string ⟨f2.toArray⟩] 72)) 26 (⟨o, 0, 0, 0⟩ : Ins).arr (n := w1.heap.size + 1) (by simp)).alloc (.stringIter ⟨f2.toArray⟩ 0)
            exact this
          · rw [hWi]
            exact ((hr1.alloc _).alloc _).alloc _
          · rw [hWi]
            exact ((hb1.alloc hsz _).alloc (by simp; omega) _).alloc (by simp; omega) _
        rw [← hWi]
        clear hWi hFF
        go_loopw [6] (fun rv wr => ∃ (pos : Nat), rv = .string ⟨(foldP o R (f2.take pos)).2.toArray⟩ ∧ Hid (pos ≤ f2.length ∧ wr.heap[F + 1 + 1]? = some (.stringIter ⟨f2.toArray⟩ pos) ∧ Blk wr (F + 1) 26 (foldP o R (f2.take pos)).1.arr ∧ Blk wr w.heap.size 26 #[.int .u8 0, .int .u8 0, .int .u8 0, .int .u8 0] ∧ Below w.heap.size w wr)) (fun _ wr => f2.length - wr.iterPos (F + 1 + 1))
        case atStart => exact ⟨0, rfl, Lib.hid ⟨by omega, hs0.out.1, hs0.out.2.1, hs0.out.2.2.1, hs0.out.2.2.2⟩⟩
        case round =>
          obtain ⟨pos, rfl, hH⟩ := hrel
          obtain ⟨hpos, hit, hx9, hr9, hbw⟩ := hH.out
          have hszr : F + 1 + 1 < wr.heap.size := (Array.getElem?_eq_some_iff.1 hit).1
          have hH9 := hH
          by_cases hp : pos < f2.length
          · obtain ⟨l, hl⟩ : ∃ l, f2[pos]? = some l := ⟨_, List.getElem?_eq_getElem hp⟩
            have hll := HK1.out.2.2.2.1 l (List.mem_of_getElem? hl)
            have hnx := next_at (w := wr) hit hl (letter_lt hll)
            obtain ⟨W1, hW1⟩ : ∃ W1, W1 = wr.iterAt (F + 1 + 1) ⟨f2.toArray⟩ (pos + 1) := ⟨_, rfl⟩
            rw [← hW1] at hnx
            have hit2 : W1.heap[F + 1 + 1]? = some (.stringIter ⟨f2.toArray⟩ (pos + 1)) := by rw [hW1]; exact Lib.iterAt_heap wr _ ⟨f2.toArray⟩ pos (pos + 1) hit
            have hb1 : Below w.heap.size w W1 := by rw [hW1]; exact Lib.below_iterAt hbw (by omega) ⟨f2.toArray⟩ (pos + 1)
            have hx1 : Blk W1 (F + 1) 26 (foldP o R (f2.take pos)).1.arr := by rw [hW1]; exact hx9.same (Lib.iterAt_other _ _ _ _ _ (by omega))
            have hr1 : Blk W1 w.heap.size 26 #[.int .u8 0, .int .u8 0, .int .u8 0, .int .u8 0] := by rw [hW1]; exact hr9.same (Lib.iterAt_other _ _ _ _ _ (by omega))
            have htake : f2.take (pos + 1) = f2.take pos ++ [l] := take_snoc' hl
            have hfl := foldP_len o R (f2.take pos)
            obtain ⟨st, hst⟩ : ∃ st, st = foldP o R (f2.take pos) := ⟨_, rfl⟩
            rw [← hst] at hx1 hfl ⊢
            obtain ⟨X, T⟩ := st
            simp only at hx1 hfl ⊢
            have hcut := cut_any T 32 (by omega) W1 (hLH.out.below hb1)
            have hcl2 := cut_len T 32
            have hnew : foldP o R (f2.take (pos + 1)) = (X.with l (atoiV (Lib.cut T [32]).1), (Lib.cut T [32]).2.1) := by rw [htake, foldP_snoc, ← hst]; rfl
            obtain ⟨A1, hA1⟩ : ∃ A1, A1 = (Lib.cut T [32]).1 := ⟨_, rfl⟩
            obtain ⟨A2, hA2⟩ : ∃ A2, A2 = (Lib.cut T [32]).2.1 := ⟨_, rfl⟩
            obtain ⟨A3, hA3⟩ : ∃ A3, A3 = (Lib.cut T [32]).2.2 := ⟨_, rfl⟩
            rw [← hA1, ← hA2] at hnew hcl2
            rw [← hA1, ← hA2, ← hA3] at hcut
            have hat := fun q => atoi_any A1 (by omega) (W1.drewN q) ((hLH.out.below hb1).drewN q)
            obtain ⟨N, hN⟩ : ∃ N, N = atoiV A1 := ⟨_, rfl⟩
            have hNin := atoiV_in A1
            rw [← hN] at hat hnew hNin
            have hwi : ∀ W, Calls Tryd.prog 42 #[.agg X.arr, .int .i32 l.toNat, .int .i64 N] W fun e w' => e = .returned (.agg (X.with l N).arr) ∧ Below W.heap.size W w' := fun W => with_any X l N hll hNin.1 hNin.2 W
            have hbH := Lib.hid (⟨hit2, hx1, hr1, hb1, hp, hnew⟩ : _ ∧ _ ∧ _ ∧ _ ∧ _ ∧ _)
            have hsz1 : F + 1 + 1 < W1.heap.size := (Array.getElem?_eq_some_iff.1 hit2).1
            clear hbw hr9 hx9 hit hpos hH hW1 hl htake hst hA1 hA2 hA3 hN hszr hit2 hx1 hr1 hnew hp
            go_wp2_with (first
              | (go_at_call 30; with_reducible refine hcut.mono ?_; rintro e w2 ⟨rfl, nq2, rfl⟩)
              | (go_at_call 57; with_reducible refine (hat nq2).mono ?_; rintro e w3 ⟨⟨ev, rfl⟩, hb3⟩
                 have hb13 : Below W1.heap.size W1 w3 := (below_drewN (Below.refl _ _) nq2).trans hb3
                 have y := hbH.out.2.1.below hb13
                 have y0 := y.cell 0
                 have y1 := y.cell 1
                 have y2 := y.cell 2
                 have y3 := y.cell 3
                 simp only [List.getElem?_toArray, List.getElem?_cons_zero, List.getElem?_cons_succ] at y0 y1 y2 y3
                 clear y)
              | (go_at_call 42; with_reducible refine (hwi w3).mono ?_; rintro e w4 ⟨rfl, hb4⟩
                 have hb14 : Below W1.heap.size W1 w4 := hb13.trans (hb4.mono hb13.size)
                 have z := hbH.out.2.1.below hb14
                 have zH := Lib.hid z
                 have z0 := z.cell 0
                 have z1 := z.cell 1
                 have z2 := z.cell 2
                 have z3 := z.cell 3
                 have g0 := z.frozen 0
                 have g1 := z.frozen 1
                 have g2 := z.frozen 2
                 have g3 := z.frozen 3
                 simp only [List.getElem?_toArray, List.getElem?_cons_zero, List.getElem?_cons_succ] at z0 z1 z2 z3
                 clear z))
            go_roundw
            case rel =>
              obtain ⟨hit2, hx1, hr1, hb1, hp, hnew⟩ := hbH.out
              refine ⟨pos + 1, by rw [hnew], Lib.hid ⟨by omega, ?_, ?_, ?_, ?_⟩⟩
              · refine (putIns_other w4 _ _ (X.with l N) (by omega)).trans ?_
                rw [hb14.block _ hsz1]; exact hit2
              · rw [hnew]; exact putIns_at (y := X) zH.out (X.with l N)
              · exact (hr1.below hb14).same (putIns_other w4 _ _ (X.with l N) (by omega))
              · exact putIns_below (hb1.trans (hb14.mono hb1.size)) (by omega) (X.with l N)
            case measure =>
              obtain ⟨hit2, hx1, hr1, hb1, hp, hnew⟩ := hbH.out
              obtain ⟨_, hit, _⟩ := hH9.out
              have e : (putIns w4 (F + 1) (X.with l N)).heap[F + 1 + 1]? = some (.stringIter ⟨f2.toArray⟩ (pos + 1)) := by
                rw [putIns_other _ _ _ _ (by omega), hb14.block _ hsz1]; exact hit2
              show f2.length - World.iterPos (putIns w4 (F + 1) (X.with l N)) (F + 1 + 1) < f2.length - wr.iterPos (F + 1 + 1)
              simp only [World.iterPos, e, hit]
              omega
          · have hpe : pos = f2.length := by omega
            subst hpe
            have hnx : ∀ ty, (Instr.next (.pointer (some ⟨F + 1 + 1, 0, none⟩)) true ty).run Tryd.prog wr = _ := fun ty => Lib.run_next_end_at wr (F + 1 + 1) ⟨f2.toArray⟩ f2.length ty hit (by rw [str_size]; omega)
            rw [List.take_length] at hx9 ⊢
            have hre := HN.out
            obtain ⟨X, hX⟩ : ∃ X, X = (foldP o R f2).1 := ⟨_, rfl⟩
            rw [← hX] at hx9 hre
            have y0 := hx9.cell 0
            have y1 := hx9.cell 1
            have y2 := hx9.cell 2
            have y3 := hx9.cell 3
            have r0 := hr9.cell 0
            have r1 := hr9.cell 1
            have r2 := hr9.cell 2
            have r3 := hr9.cell 3
            have g0 := hr9.frozen 0
            have g1 := hr9.frozen 1
            have g2 := hr9.frozen 2
            have g3 := hr9.frozen 3
            simp only [List.getElem?_toArray, List.getElem?_cons_zero, List.getElem?_cons_succ] at y0 y1 y2 y3 r0 r1 r2 r3
            have hrH := Lib.hid hr9
            have hbH := Lib.hid hbw
            have hreH := Lib.hid hre
            clear hX hre hx9 hr9 hbw hit hH hH9 hpos hp hszr
            go_wp2
            have q : ∀ i, ((((wr.setCell ⟨w.heap.size, 0, none⟩ (.int .u8 X.o.toNat)).setCell ⟨w.heap.size, 1, none⟩ (.int .u8 X.a.toNat)).setCell ⟨w.heap.size, 2, none⟩ (.int .u8 X.b.toNat)).setCell ⟨w.heap.size, 3, none⟩ (.int .u8 X.c.toNat)).cell? ⟨w.heap.size, i, none⟩ = X.arr[i]? := fun i => (putIns_at (y := Ins.zero) hrH.out X).cell i
            have q0 := q 0
            have q1 := q 1
            have q2 := q 2
            have q3 := q 3
            simp only [List.getElem?_toArray, List.getElem?_cons_zero, List.getElem?_cons_succ] at q0 q1 q2 q3
            refine bodyPost_ret (v := X.val) ?_ rfl ⟨by rw [hreH.out], putIns_below hbH.out (Nat.le_refl _) X⟩
            simp [results, Tryd.results46, go_sem, q0, q1, q2, q3, Ins.val]
      · have hwb : (f1 == W) = false := by simpa using hw
        go_wp2
        go_roundw
        case rel =>
          obtain ⟨hb1, hr1, hfo, _, _, _, hkl⟩ := HK1.out
          refine ⟨rfl, rfl, _, cnt1, Lib.hid ⟨HR1.out.alloc _, ⟨hb1.alloc hb1.size _, hr1.alloc _⟩, fun o' f' hf' hl' => ?_⟩⟩
          by_cases e : o' = o
          · subst e
            have := Option.some.inj (hfo.symm.trans hf')
            rw [← this]; exact hw
          · refine HI.out.2.2 o' f' hf' ?_
            change (left (keyL o') && !(keyL o').sameKey kl) = false at hl'
            rw [hkl, sameKey_key, show (o' == o) = false by simpa using e] at hl'
            simpa using hl'
        case measure => rw [(HR1.out.alloc (.cells #[.string ⟨f1.toArray⟩, .string ⟨f2.toArray⟩] 72)).left_eq, HI.out.1.left_eq]; exact HLT.out
end Go.Proofs
end
section
namespace Go.Proofs
open Go.RowKit
set_option linter.unusedVariables false
set_option linter.unusedSimpArgs false

theorem readP_len (s : List UInt8) : (readP s).length ≤ 4 := by
  unfold readP
  split
  · unfold unrawP bytesOf; simp; omega
  · exact Nat.le_refl 4
def okP (s b : List UInt8) : Bool := decide (b ≠ [] ∧ lineP b = s)
theorem empty_iff (l : List UInt8) : (⟨l.toArray⟩ : ByteArray).toList.isEmpty = l.isEmpty := by
  rw [← decide_eq_emptyBytes]
  cases l with
  | nil => rfl
  | cons x r =>
    refine decide_eq_false (fun e => ?_)
    have := congrArg (fun b : ByteArray => b.data.toList) e
    simp at this
theorem str_beq (x y : List UInt8) : ((⟨x.toArray⟩ : ByteArray).toList == (⟨y.toArray⟩ : ByteArray).toList) = decide (x = y) := by
  have e : ∀ z : List UInt8, (⟨z.toArray⟩ : ByteArray).toList = z := fun z => by simp
  rw [e, e]
  by_cases h : x = y
  · subst h; simp
  · simp [h]
set_option maxHeartbeats 2000000 in
set_option maxRecDepth 100000 in
theorem read_any (s : List UInt8) (hs : s.length ≤ 1000000) (m : Nat) (w : World) (hF : FormsAt w m) (hL : Ld w) :
    Calls Tryd.prog 31 #[.map (some m), .string ⟨s.toArray⟩] w fun e w' => ∃ R, e = .returned (.tuple #[R, .bool (okP s (readP s))]) ∧ Row w' 5 1 R (readP s).length (bys (readP s)) ∧ (∀ k ∈ foot R, w.heap.size ≤ k) ∧ Below w.heap.size w w' := by
  have hP := Tryd.strings_CutPrefix ⟨s.toArray⟩ ⟨#[114, 97, 119, 32]⟩ w
  have hlen := readP_len s
  have hrd : readP s = if Lib.hasPrefix s rawB then unrawP (s.drop 4) else (instP s).bytes := rfl
  have hpre : (⟨(Lib.trimPrefix s rawB).toArray⟩ : ByteArray) = ⟨(if Lib.hasPrefix s rawB then s.drop 4 else s).toArray⟩ := rfl
  have hline := fun V b (hb4 : b.length ≤ 4) W (hb : Below w.heap.size w W) (h : By W V b) => line_any V b hb4 m W (hF.below hb) (hL.ta.below hb) h
  obtain ⟨b, hb⟩ : ∃ b, b = readP s := ⟨_, rfl⟩
  rw [← hb] at hrd hlen ⊢
  obtain ⟨sB, hsB⟩ : ∃ sB : ByteArray, sB = ⟨s.toArray⟩ := ⟨_, rfl⟩
  have hP : Calls Tryd.prog 44 #[.string ⟨s.toArray⟩, .string ⟨#[114, 97, 119, 32]⟩] w fun e w' => e = .returned (.tuple #[.string ⟨(if Lib.hasPrefix s rawB then s.drop 4 else s).toArray⟩, .bool (Lib.hasPrefix s rawB)]) ∧ w' = w := hP
  cases hh : Lib.hasPrefix s rawB
  · rw [hh] at hP
    rw [if_neg (by decide)] at hP
    rw [if_neg (by rw [hh]; decide)] at hrd
    have hX := inst_any s hs m w hF hL
    obtain ⟨x, hx⟩ : ∃ x, x = instP s := ⟨_, rfl⟩
    rw [← hx] at hX hrd
    subst hrd
    have hX : Calls Tryd.prog 46 #[.map (some m), .string ⟨s.toArray⟩] w fun e w' => e = .returned (.agg x.arr) ∧ Below w.heap.size w w' := hX
    have hfl : flatI [x] = x.bytes := by simp [flatI]
    have hcs := fun W : World => (show Cs (W.alloc (.cells x.arr 26)) (.slice (some ⟨W.heap.size, 0, none⟩) 1 1) 1 (bys (flatI [x])) by
      rw [hfl]
      exact Cs.new W (bys x.bytes) 26 1 (by unfold maxLen; omega))
    have hBy := fun W : World => bytes_any _ [x] (by simp) _ (hcs W)
    rw [hfl] at hBy
    simp only [List.length_cons, List.length_nil] at hBy
    obtain ⟨ok, hok⟩ : ∃ ok, ok = okP s x.bytes := ⟨_, rfl⟩
    rw [← hok, show x.bytes.length = 4 from rfl]
    rw [← hsB] at hP hX ⊢
    obtain ⟨LB, hLB⟩ : ∃ LB : ByteArray, LB = ⟨(lineP x.bytes).toArray⟩ := ⟨_, rfl⟩
    have hline2 : ∀ V W, Below w.heap.size w W → By W V x.bytes → Calls Tryd.prog 28 #[.map (some m), V] W fun e w' => e = .returned (.string LB) ∧ Below W.heap.size W w' := fun V W hb h => by rw [hLB]; exact hline V _ (Nat.le_refl _) W hb h
    have hcmp : ok = (LB.toList == sB.toList) := by
      rw [hok, hLB, hsB, str_beq]; unfold okP
      have hbn : x.bytes ≠ [] := by simp [Ins.bytes]
      by_cases he : lineP x.bytes = s
      · rw [decide_eq_true ⟨hbn, he⟩, decide_eq_true he]
      · rw [decide_eq_false (fun e => he e.2), decide_eq_false he]
    have hcmpH := Lib.hid hcmp
    clear hcmp hLB hline hok hsB hb hx hlen hpre hcs hfl
    go_enter Tryd.func31, Tryd.ntmps31
    go_wp2_with (first
      | (go_at_call 44; refine hP.mono ?_; rintro e w1 ⟨rfl, hw1⟩; subst hw1)
      | (go_at_call 46; refine hX.mono ?_; rintro e w2 ⟨rfl, hbx⟩)
      | (go_at_call 13; refine (hBy w2).mono ?_; rintro e w3 ⟨R, rfl, hrow, hft, hbw3⟩; obtain ⟨A, c, hRv, _⟩ := hrow.val; have hrowH := Lib.hid hrow; subst hRv
         have hbw4 := (hbx.alloc hbx.size (.cells x.arr 26)).trans (hbw3.mono (by have := hbx.size; simp; omega)))
      | (go_at_call 28; refine (hline2 _ w3 hbw4 (By.of_row hrowH.out)).mono ?_; rintro e w5 ⟨rfl, hb5⟩))
    go_ret2
    exact ⟨_, by rw [hcmpH.out]; rfl, hrowH.out.below hb5, fun k hk => Nat.le_trans (by have := hbx.size; simp; omega) (hft k hk), hbw4.trans (hb5.mono hbw4.size)⟩
  · rw [hh] at hP
    rw [if_pos rfl] at hP
    rw [if_pos hh] at hrd
    have hU := unraw_any (s.drop 4) (by rw [List.length_drop]; omega) w hL
    rw [← hrd] at hU
    obtain ⟨n, hn⟩ : ∃ n, n = b.length := ⟨_, rfl⟩
    rw [← hn] at hU hlen
    obtain ⟨ok, hok⟩ : ∃ ok, ok = okP s b := ⟨_, rfl⟩
    rw [← hok, ← hn]
    rw [← hsB] at hP ⊢
    obtain ⟨dB, hdB⟩ : ∃ dB : ByteArray, dB = ⟨(s.drop 4).toArray⟩ := ⟨_, rfl⟩
    rw [← hdB] at hP hU
    have hK := Lib.hid (⟨hb, hsB, hn, hok⟩ : _ ∧ _ ∧ _ ∧ _)
    clear hb hrd hsB hok hdB hpre hh hn
    by_cases hn0 : n = 0
    · subst hn0
      go_enter Tryd.func31, Tryd.ntmps31
      go_wp2_with (first
        | (go_at_call 44; refine hP.mono ?_; rintro e w1 ⟨rfl, rfl⟩)
        | (go_at_call 45; refine hU.mono ?_; rintro e w2 ⟨R, rfl, hrow, hft, hbw⟩; obtain ⟨A, c, hRv, _⟩ := hrow.val; have hrowH := Lib.hid hrow; subst hRv))
      go_ret2
      refine ⟨_, ?_, hrow, hft, hbw⟩
      obtain ⟨_, _, hn, hok⟩ := hK.out
      have : ok = false := by
        rw [hok]; unfold okP
        exact decide_eq_false (fun e => e.1 (List.length_eq_zero_iff.1 hn.symm))
      rw [this]; rfl
    · obtain ⟨LB, hLB⟩ : ∃ LB : ByteArray, LB = ⟨(lineP b).toArray⟩ := ⟨_, rfl⟩
      have hn1 : (0 : Int) < (n : Int) := by omega
      have hline2 : ∀ V W, Below w.heap.size w W → By W V b → Calls Tryd.prog 28 #[.map (some m), V] W fun e w' => e = .returned (.string LB) ∧ Below W.heap.size W w' := fun V W hb h => by rw [hLB]; exact hline V b (by have := hK.out.2.2.1; omega) W hb h
      have hcmp : ok = (LB.toList == sB.toList) := by
        obtain ⟨_, hsB, hn, hok⟩ := hK.out
        rw [hok, hLB, hsB]; unfold okP
        have hbn : b ≠ [] := fun e => hn0 (by rw [hn, e]; rfl)
        rw [str_beq]
        by_cases he : lineP b = s
        · rw [decide_eq_true ⟨hbn, he⟩, decide_eq_true he]
        · rw [decide_eq_false (fun e => he e.2), decide_eq_false he]
      have hcmpH := Lib.hid hcmp
      clear hcmp hLB hline
      go_enter Tryd.func31, Tryd.ntmps31
      go_wp2_with (first
        | (go_at_call 44; refine hP.mono ?_; rintro e w1 ⟨rfl, rfl⟩)
        | (go_at_call 45; refine hU.mono ?_; rintro e w2 ⟨R, rfl, hrow, hft, hbw⟩; obtain ⟨A, c, hRv, _⟩ := hrow.val; have hrowH := Lib.hid hrow; subst hRv)
        | (go_at_call 28; refine (hline2 _ w2 hbw (By.of_row hrowH.out)).mono ?_; rintro e w3 ⟨rfl, hb3⟩))
      go_ret2
      exact ⟨_, by rw [hcmpH.out]; rfl, hrowH.out.below hb3, hft, hbw.trans (hb3.mono hbw.size)⟩
end Go.Proofs
end
