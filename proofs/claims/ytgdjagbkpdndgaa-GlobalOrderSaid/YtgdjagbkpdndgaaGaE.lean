import Derived.Test.YtgdjagbkpdndgaaGaD
import Derived.Laws.BitsAllLaws
import Derived.Laws.BitsLemmas
import Derived.LoopTactic
namespace Go.Proofs
open Go.RowKit
set_option linter.unusedVariables false

theorem Blk.at (w : World) (t : TypeId) (cs : Array Value) {n : Nat} (h : n = w.heap.size) : Blk (w.alloc (.cells cs t)) n t cs := by subst h; exact Blk.new w t cs
/-! ### Sets of Ps, and who may run -/
/-- Is p in the set s? -/
def bitOf (s p : Int) : Bool := decide (0 ≤ p) && decide (p < 8) && decide (s / 2 ^ p.toNat % 2 = 1)
def pw (p : Int) : Int := if 0 ≤ p ∧ p < 8 then 2 ^ p.toNat else 0

theorem and_in : ∀ s : Fin 256, ∀ p : Fin 8, (bits BinOp.and IntKind.u8 ((s.val : Nat) : Int) (2 ^ p.val) != 0) = bitOf (s.val : Nat) (p.val : Nat) := by decide +kernel
theorem zero_in : ∀ s : Fin 256, bits BinOp.and IntKind.u8 ((s.val : Nat) : Int) 0 = 0 := by decide +kernel
theorem and_of (s p : Int) (s0 : 0 ≤ s) (s1 : s < 256) : (bits BinOp.and IntKind.u8 s (pw p) != 0) = bitOf s p := by
  obtain ⟨n, rfl⟩ := Int.eq_ofNat_of_zero_le s0
  by_cases h : 0 ≤ p ∧ p < 8
  · obtain ⟨q, rfl⟩ := Int.eq_ofNat_of_zero_le h.1
    have := and_in ⟨n, by omega⟩ ⟨q, by omega⟩
    rw [show pw (q : Int) = 2 ^ q from if_pos h]
    exact this
  · rw [show pw p = 0 from if_neg h, (zero_in ⟨n, by omega⟩)]
    unfold bitOf
    by_cases h0 : 0 ≤ p
    · have : ¬ p < 8 := fun c => h ⟨h0, c⟩
      simp [this]
    · simp [h0]
theorem pw_mod (p : Int) (h0 : 0 ≤ p) (h1 : p < 8) : (2 : Int) ^ p.toNat % 256 = pw p := by
  obtain ⟨n, rfl⟩ := Int.eq_ofNat_of_zero_le h0
  rw [show pw (n : Int) = 2 ^ n from if_pos ⟨h0, h1⟩, Int.toNat_natCast]
  have : ∀ q : Fin 8, (2 : Int) ^ q.val % 256 = 2 ^ q.val := by decide
  exact this ⟨n, by omega⟩

theorem bit_any (p : Int) (w : World) :
    Calls Try.prog 43 #[.int .i64 p] w fun e w' => e = .returned (.int .u8 (pw p)) ∧ w = w' := by
  by_cases h0 : p < 0
  · rw [show pw p = 0 from if_neg (by omega)]
    go_enter Try.func43, Try.ntmps43
    go_wp2
    go_ret
    exact ⟨rfl, rfl⟩
  · by_cases h1 : 8 ≤ p
    · rw [show pw p = 0 from if_neg (by omega)]
      go_enter Try.func43, Try.ntmps43
      go_wp2
      go_ret
      exact ⟨rfl, rfl⟩
    · have hpw := Lib.hid (pw_mod p (by omega) (by omega))
      go_enter Try.func43, Try.ntmps43
      go_wp2
      rw [hpw.out]
      go_ret
      exact ⟨rfl, rfl⟩

theorem has_any (s p : Int) (s0 : 0 ≤ s) (s1 : s < 256) (w : World) :
    Calls Try.prog 40 #[.int .u8 s, .int .i64 p] w fun e w' => e = .returned (.bool (bitOf s p)) ∧ w = w' := by
  have hA := Lib.hid (and_of s p s0 s1)
  go_enter Try.func40, Try.ntmps40
  go_wp2_with (go_at_call 43; refine (bit_any _ _).mono ?_; rintro e w' ⟨rfl, rfl⟩)
  rw [hA.out]
  go_ret
  exact ⟨rfl, rfl⟩
def sh (s : Int) (k : Nat) : Int := s / 2 ^ k
theorem sh_0 (s : Int) : sh s 0 = s := by unfold sh; simp
theorem sh_succ (s : Int) (k : Nat) : sh s (k + 1) = sh s k / 2 := by
  unfold sh
  rw [Int.pow_succ, Int.ediv_ediv_of_nonneg (Int.pow_nonneg (by decide))]
theorem sh_bd (s : Int) (k : Nat) (h0 : 0 ≤ s) (h1 : s < 256) : 0 ≤ sh s k ∧ sh s k < 256 := by
  induction k with
  | zero => rw [sh_0]; exact ⟨h0, h1⟩
  | succ k ih => rw [sh_succ]; omega

set_option maxHeartbeats 1000000 in
theorem ref_has (s p : Int) (s0 : 0 ≤ s) (s1 : s < 256) (w : World) :
    Calls Try.prog 30 #[.int .u8 s, .int .i64 p] w fun e w' => e = .returned (.bool (bitOf s p)) ∧ w = w' := by
  by_cases h0 : p < 0
  · rw [show bitOf s p = false by unfold bitOf; rw [decide_eq_false (by omega : ¬ 0 ≤ p)]; rfl]
    go_enter Try.func30, Try.ntmps30
    go_wp2
    go_ret
    exact ⟨rfl, rfl⟩
  · by_cases h1 : 7 < p
    · rw [show bitOf s p = false by unfold bitOf; rw [decide_eq_false (by omega : ¬ p < 8)]; simp]
      go_enter Try.func30, Try.ntmps30
      go_wp2
      go_ret
      exact ⟨rfl, rfl⟩
    · obtain ⟨q, rfl⟩ := Int.eq_ofNat_of_zero_le (by omega : 0 ≤ p)
      rw [show bitOf s (q : Int) = (sh s q % 2 == 1) by
        unfold bitOf sh
        rw [decide_eq_true (by omega : 0 ≤ (q : Int)), decide_eq_true (by omega : (q : Int) < 8), Int.toNat_natCast, Bool.eq_iff_iff]
        simp]
      go_enter Try.func30, Try.ntmps30
      go_wp2
      go_loop [0, 5] (fun t i => ∃ k : Nat, k ≤ q ∧ i = .int .i64 k ∧ t = .int .u8 (sh s k)) (fun _ i => q - (intOf i).toNat)
      case atStart => exact ⟨0, Nat.zero_le _, rfl, by rw [sh_0]⟩
      case round =>
        obtain ⟨k, hk, rfl, rfl⟩ := hrel
        obtain ⟨b0, b1⟩ := sh_bd s k s0 s1
        by_cases hlt : k < q
        · have hs := Lib.hid (sh_succ s k)
          go_wp2
          go_round
          case rel => exact ⟨k + 1, by omega, by go_num, by rw [hs.out]⟩
          case measure => simp [intOf]; omega
        · obtain rfl : k = q := by omega
          go_wp2
          go_ret
          exact ⟨rfl, rfl⟩


/-- May x run on p? -/
def mayP (aff : List Int) (p x : Int) : Bool := decide (0 ≤ x) && decide (x < aff.length) && bitOf (aff.getD x.toNat 0) p
/-- The slice V reads as these bytes. -/
def Bs (w : World) (V : Value) (l : List Int) : Prop :=
  ∃ A c, V = .slice A l.length c ∧ ∀ (k : Nat) (x : Int), l[k]? = some x → ∃ b o, A = some ⟨b, o, none⟩ ∧ b < w.heap.size ∧ 0 ≤ x ∧ x < 256 ∧ w.cell? ⟨b, o + k, none⟩ = some (.int .u8 x)
theorem Bs.chg {S : List Nat} {w w' : World} {V : Value} {l : List Int} (h : Bs w V l) (hc : Chg S w w') (hn : l = [] ∨ ∀ k ∈ foot V, k ∉ S) : Bs w' V l := by
  obtain ⟨A, c, rfl, h1⟩ := h
  refine ⟨A, c, rfl, fun k x hk => ?_⟩
  obtain ⟨b, o, rfl, hb, x0, x1, hx⟩ := h1 k x hk
  rcases hn with rfl | hn
  · simp at hk
  · exact ⟨b, o, rfl, Nat.lt_of_lt_of_le hb hc.size, x0, x1, (hc.cell (p := ⟨b, o + k, none⟩) hb (hn b (by simp [foot_some]))).trans hx⟩
theorem Bs.quiet {w w' : World} {V : Value} {l : List Int} (h : Bs w V l) (hc : Chg [] w w') : Bs w' V l := h.chg hc (.inr (fun _ _ hk => by cases hk))
theorem Bs.at_ {w : World} {A : Option Addr} {n c : Nat} {l : List Int} (h : Bs w (.slice A n c) l) {x : Int} (h0 : 0 ≤ x) (h1 : x < l.length) :
    ∃ b o, A = some ⟨b, o, none⟩ ∧ 0 ≤ l.getD x.toNat 0 ∧ l.getD x.toNat 0 < 256 ∧ w.cell? ⟨b, o + x.toNat, none⟩ = some (.int .u8 (l.getD x.toNat 0)) := by
  obtain ⟨A', c', hv, h2⟩ := h
  injection hv with e1 e2 e3
  subst e1
  have hl : x.toNat < l.length := by omega
  have hg : l[x.toNat]? = some (l.getD x.toNat 0) := by rw [List.getD_eq_getElem?_getD, List.getElem?_eq_getElem hl]; rfl
  obtain ⟨b, o, e, _, q1, q2, q3⟩ := h2 _ _ hg
  exact ⟨b, o, e, q1, q2, q3⟩
theorem mayP_in {aff : List Int} {p x : Int} (h0 : 0 ≤ x) (h1 : x < aff.length) : mayP aff p x = bitOf (aff.getD x.toNat 0) p := by
  unfold mayP
  rw [decide_eq_true h0, decide_eq_true h1]
  rfl
theorem mayP_low {aff : List Int} {p x : Int} (h0 : x < 0) : mayP aff p x = false := by
  unfold mayP
  rw [decide_eq_false (by omega : ¬ 0 ≤ x)]
  rfl
theorem mayP_high {aff : List Int} {p x : Int} (h0 : (aff.length : Int) ≤ x) : mayP aff p x = false := by
  unfold mayP
  rw [decide_eq_false (by omega : ¬ x < aff.length)]
  simp
/-- The document's May. -/
theorem rmay_any {w : World} {V : Value} {aff : List Int} (h : Bs w V aff) (x p : Int) :
    Calls Try.prog 13 #[.int .i64 x, .int .i64 p, V] w fun e w' => e = .returned (.bool (mayP aff p x)) ∧ w = w' := by
  obtain ⟨A, c, rfl, _⟩ := id h
  obtain ⟨n, hn⟩ : ∃ n, n = aff.length := ⟨_, rfl⟩
  by_cases h0 : x < 0
  · rw [mayP_low h0, ← hn]
    clear hn h
    go_enter Try.func13, Try.ntmps13
    go_wp2
    go_ret
    exact ⟨rfl, rfl⟩
  · by_cases h1 : (aff.length : Int) ≤ x
    · rw [mayP_high h1, ← hn]
      rw [← hn] at h1
      clear hn h
      go_enter Try.func13, Try.ntmps13
      go_wp2
      go_ret
      exact ⟨rfl, rfl⟩
    · obtain ⟨b, o, rfl, s0, s1, hc⟩ := h.at_ (x := x) (by omega) (by omega)
      rw [mayP_in (by omega) (by omega), ← hn]
      obtain ⟨s, hs⟩ : ∃ s, s = aff.getD x.toNat 0 := ⟨_, rfl⟩
      rw [← hs] at s0 s1 hc ⊢
      rw [← hn] at h1
      have i0 : (0 : Int) ≤ x := by omega
      have i1 : x < (n : Int) := by omega
      clear hn hs h
      go_enter Try.func13, Try.ntmps13
      go_wp2_with (go_at_call 30; refine (ref_has _ _ s0 s1 _).mono ?_; rintro e w' ⟨rfl, rfl⟩)
      go_ret
      exact ⟨rfl, rfl⟩
/-- A closure that tells who may: whatever else turns but for the blocks of T. -/
def MayF (w : World) (T : List Nat) (c1 c2 : Value) (f : Int → Bool) : Prop :=
  ∀ W, Chg T w W → ∀ x : Int, Calls Try.prog 39 #[.int .i64 x, c1, c2] W fun e w' => e = .returned (.bool (f x)) ∧ ∃ q, w' = W.drewN q
theorem MayF.chg {w w' : World} {T : List Nat} {c1 c2 : Value} {f : Int → Bool} (h : MayF w T c1 c2 f) (hc : Chg T w w') : MayF w' T c1 c2 f :=
  fun W hW => h W (hc.trans hW (fun k hk => .inl hk))
theorem may_any {w : World} {b1 b2 n c : Nat} {A : Option Addr} {aff : List Int} {p : Int} (h1 : Blk w b1 32 #[.slice A n c]) (h2 : Blk w b2 3 #[.int .i64 p]) (h : Bs w (.slice A n c) aff) (hn : n = aff.length) (x : Int) :
    Calls Try.prog 39 #[.int .i64 x, .pointer (some ⟨b1, 0, none⟩), .pointer (some ⟨b2, 0, none⟩)] w fun e w' => e = .returned (.bool (mayP aff p x)) ∧ ∃ q, w' = w.drewN q := by
  have k1 := h1.cell 0
  have k2 := h2.cell 0
  clear h1 h2
  by_cases h0 : x < 0
  · rw [mayP_low h0]
    have g0 : decide (0 ≤ x) = false := by simp; omega
    clear hn h
    go_enter Try.func39, Try.ntmps39
    go_wp2
    go_quiet (fail)
    go_wp2
    go_ret
    exact ⟨rfl, _, rfl⟩
  · have g0 : decide (0 ≤ x) = true := by simp; omega
    by_cases h9 : (aff.length : Int) ≤ x
    · rw [mayP_high h9]
      rw [← hn] at h9
      have g1 : decide (x < (n : Int)) = false := by simp; omega
      clear hn h
      go_enter Try.func39, Try.ntmps39
      go_wp2
      go_quiet (fail)
      go_wp2
      go_ret
      exact ⟨rfl, _, rfl⟩
    · obtain ⟨b, o, rfl, s0, s1, hc⟩ := h.at_ (x := x) (by omega) (by omega)
      rw [mayP_in (by omega) (by omega)]
      obtain ⟨s, hs⟩ : ∃ s, s = aff.getD x.toNat 0 := ⟨_, rfl⟩
      rw [← hs] at s0 s1 hc ⊢
      rw [← hn] at h9
      have g1 : decide (x < (n : Int)) = true := by simp; omega
      have i0 : (0 : Int) ≤ x := by omega
      have i1 : x < (n : Int) := by omega
      have HH : ∀ W : World, Calls Try.prog 40 #[.int .u8 s, .int .i64 p] W fun e w' => e = .returned (.bool (bitOf s p)) ∧ w' = W := fun W => (has_any s p s0 s1 W).mono fun e w' ⟨h1, h2⟩ => ⟨h1, h2.symm⟩
      clear hn hs h
      go_enter Try.func39, Try.ntmps39
      go_wp2
      go_quiet ((go_at_call 40; exact Calls.quiet_of_same (HH _)))
      go_wp2
      go_ret
      exact ⟨rfl, _, rfl⟩
theorem mayRun_any {w : World} {V : Value} {aff : List Int} (h : Bs w V aff) (p : Int) (T : List Nat) (hT : ∀ k ∈ T, k < w.heap.size) (hV : aff = [] ∨ ∀ k ∈ foot V, k ∉ T) :
    Calls Try.prog 31 #[.int .i64 p, V] w fun e w' => ∃ c1 c2, e = .returned (.func (.func 39) #[] #[c1, c2]) ∧ MayF w' T c1 c2 (mayP aff p) ∧ Chg [] w w' := by
  obtain ⟨A, c, rfl, _⟩ := id h
  go_enter Try.func31, Try.ntmps31
  go_wp2
  go_ret
  refine ⟨_, _, rfl, fun W hW x => ?_, ((Chg.refl _ _).alloc _).alloc _⟩
  have h1 : w.heap.size ∉ T := fun hm => by have := hT _ hm; omega
  have h2 : w.heap.size + 1 ∉ T := fun hm => by have := hT _ hm; omega
  refine may_any (n := aff.length) (((Blk.at (w.alloc _) 32 _ (by simp))).chg hW h2) (((Blk.new w 3 _).alloc _).chg hW h1) ((h.quiet (((Chg.refl _ _).alloc _).alloc _)).chg hW hV) rfl x
end Go.Proofs
