import Derived.Test.YtllohclpaggfbaaNumE
import Derived.LoopTactic
import Derived.Laws.AppendOwn
import Derived.Laws.OwnMore
namespace Go.Proofs
open Go.RowKit
set_option linter.unusedVariables false

/-! ### The document's own functions of sets -/

def sh (s : Int) (k : Nat) : Int := s / 2 ^ k
theorem sh_0 (s : Int) : sh s 0 = s := by unfold sh; simp
theorem sh_succ (s : Int) (k : Nat) : sh s (k + 1) = sh s k / 2 := by
  unfold sh
  rw [Int.pow_succ, Int.ediv_ediv_of_nonneg (Int.pow_nonneg (by decide))]
theorem sh_bd (s : Int) (k : Nat) (h0 : 0 ≤ s) (h1 : s < 256) : 0 ≤ sh s k ∧ sh s k < 256 := by
  induction k with
  | zero => rw [sh_0]; exact ⟨h0, h1⟩
  | succ k ih => rw [sh_succ]; omega

set_option maxHeartbeats 1000000 in
theorem ref_has (s p : Int) (s0 : 0 ≤ s) (s1 : s < 256) (w : World) :
    Calls Try.prog 20 #[.int .u8 s, .int .i64 p] w fun e w' => e = .returned (.bool (bitOf s p)) ∧ w = w' := by
  by_cases h0 : p < 0
  · rw [show bitOf s p = false by unfold bitOf; rw [decide_eq_false (by omega : ¬ 0 ≤ p)]; rfl]
    go_enter Try.func20, Try.ntmps20
    go_wp2
    go_ret
    exact ⟨rfl, rfl⟩
  · by_cases h1 : 7 < p
    · rw [show bitOf s p = false by unfold bitOf; rw [decide_eq_false (by omega : ¬ p < 8)]; simp]
      go_enter Try.func20, Try.ntmps20
      go_wp2
      go_ret
      exact ⟨rfl, rfl⟩
    · obtain ⟨q, rfl⟩ := Int.eq_ofNat_of_zero_le (by omega : 0 ≤ p)
      rw [show bitOf s (q : Int) = (sh s q % 2 == 1) by
        unfold bitOf sh
        rw [decide_eq_true (by omega : 0 ≤ (q : Int)), decide_eq_true (by omega : (q : Int) < 8), Int.toNat_natCast, Bool.eq_iff_iff]
        simp]
      go_enter Try.func20, Try.ntmps20
      go_wp2
      go_loop [0, 5] (fun t i => ∃ k : Nat, k ≤ q ∧ i = .int .i64 k ∧ t = .int .u8 (sh s k)) (fun _ i => q - (intOf i).toNat)
      case atStart => exact ⟨0, Nat.zero_le _, rfl, by rw [sh_0]⟩
      case round =>
        obtain ⟨k, hk, rfl, rfl⟩ := hrel
        obtain ⟨b0, b1⟩ := sh_bd s k s0 s1
        by_cases hlt : k < q
        · have hs := Lib.hid (sh_succ s k)
          go_wp2
          go_round
          case rel => exact ⟨k + 1, by omega, by go_num, by rw [hs.out]⟩
          case measure => simp [intOf]; omega
        · obtain rfl : k = q := by omega
          go_wp2
          go_ret
          exact ⟨rfl, rfl⟩

theorem Try.info3 : (Try.prog.info? 3).map (fun i => (i.zero, i.size, i.bytes)) = some (some (.int .i64 0), 1, 8) := by kernel_rfl

theorem own_ge {w : World} {base : Nat} {e : TypeId} {size n : Nat} {v : Value} {xs : List Value} (h : w.ownsRow base e size v n xs) : ∀ k, v.ownBlock = some k → base ≤ k := by
  intro k hk
  rcases h.2 with ⟨rfl, _⟩ | ⟨g, cap, cur, rfl, hg, _⟩
  · simp [Value.ownBlock] at hk
  · simp [Value.ownBlock] at hk; omega

/-- The slice value v reads in w as the integers l; its cells lie below block B. -/
def RowI (w : World) (B : Nat) (v : Value) (l : List Int) : Prop :=
  ∃ (A : Option Addr) (c : Nat), v = .slice A l.length c ∧ (A = none → c = 0) ∧ ∀ k, k < l.length → ∃ g, A = some ⟨g, 0, none⟩ ∧ g < B ∧ w.cell? ⟨g, k, none⟩ = some (.int .i64 (l[k]?.getD 0))
theorem RowI.below {w w' : World} {B : Nat} {v : Value} {l : List Int} (h : RowI w B v l) (hb : Below B w w') : RowI w' B v l := by
  obtain ⟨A, c, hv, hn, hc⟩ := h
  refine ⟨A, c, hv, hn, fun k hk => ?_⟩
  obtain ⟨g, hA, hg, hcell⟩ := hc k hk
  exact ⟨g, hA, hg, (hb.cell (p := ⟨g, k, none⟩) hg).trans hcell⟩
theorem RowI.of_own {w : World} {base : Nat} {e : TypeId} {v : Value} {l : List Int} (h : w.ownsRow base e 1 v l.length (l.map (Value.int .i64))) : RowI w w.heap.size v l := by
  obtain ⟨hl, h⟩ := h
  rcases h with ⟨rfl, h0⟩ | ⟨g, cap, cur, rfl, hg, hh, hn, hcm, hcs, htk⟩
  · have : l = [] := List.eq_nil_of_length_eq_zero h0
    subst this
    exact ⟨none, 0, rfl, fun _ => rfl, fun k hk => absurd hk (by simp)⟩
  · refine ⟨some ⟨g, 0, none⟩, cap, rfl, (fun h => by cases h), fun k hk => ⟨g, rfl, ?_, ?_⟩⟩
    · rcases Nat.lt_or_ge g w.heap.size with h | h
      · exact h
      · rw [Array.getElem?_eq_none h] at hh; cases hh
    · have h1 : (cur.toList.take (l.length * 1))[k]? = (l.map (Value.int .i64))[k]? := by rw [htk]
      rw [List.getElem?_take_of_lt (by omega), List.getElem?_map, Array.getElem?_toList] at h1
      rw [cell_of_row w g k cur e (0, 0) hh, h1, List.getElem?_eq_getElem hk]
      rfl

set_option maxHeartbeats 1600000 in
set_option maxRecDepth 100000 in
theorem ref_all (s : Int) (s0 : 0 ≤ s) (s1 : s < 256) (w : World) :
    Calls Try.prog 18 #[.int .u8 s] w fun e w' => ∃ v, e = .returned v ∧ RowI w' w'.heap.size v (allL s) ∧ Below w.heap.size w w' := by
  obtain ⟨i0, hi, hz0, hz1, hz2⟩ := info_parts Try.info3
  go_enter Try.func18, Try.ntmps18
  go_wp2
  go_loopw [3, 4] (fun v i wr => ∃ k : Nat, k ≤ 8 ∧ i = .int .i64 k ∧ wr.ownsRow w.heap.size 3 1 v (upL s k).length ((upL s k).map (Value.int .i64)) ∧ Below w.heap.size w wr)
    (fun _ i _ => 8 - (intOf i).toNat)
  case atStart => exact ⟨0, Nat.zero_le _, rfl, World.ownsRow_nil _ _ _ _, Below.refl _ _⟩
  case round =>
    obtain ⟨k, hk, rfl, hown, hnx⟩ := hrel
    have hl := upL_len s k
    by_cases hlt : k < 8
    · cases hb : bitOf s (k : Int) with
      | true =>
        have hY := Lib.hid (upL_yes s k hb)
        go_wp2_with (first
          | (go_at_call 20; refine (ref_has s _ s0 s1 _).mono ?_; rintro e w' ⟨rfl, rfl⟩)
          | (at_builtin; refine wpList_append_own _ rfl _ _ 28 rfl w.heap.size 3 i0 (.int .i64 0) 1 8 Try.underlying28 hi hz0 hz1 hz2 rfl (by decide) _ _ _ rfl (hown.alloc _) ⟨wr.heap.size, 0, none⟩ 1 1 [.int .i64 (k : Int)] rfl rfl ?c1 ?c2 ?c3 ?c4 ?c5 ?_))
        case c1 =>
          intro j u hj
          match j, hj with
          | 0, hj => simp at hj; subst hj; simp [Addr.add]
        case c2 => intro u hu; simp at hu; subst hu; rfl
        case c3 => unfold maxLen; omega
        case c4 => omega
        case c5 => have := hnx.size; simp; omega
        intro v' w1 hown' hgrow _
        go_wp2
        go_roundw
        case rel => exact ⟨k + 1, by omega, by go_num, by rw [hY.out]; simpa using hown', (hnx.alloc hnx.size _).grown hgrow (by have := hnx.size; simp; omega) (own_ge hown)⟩
        case measure => simp [intOf]; omega
      | false =>
        have hY := Lib.hid (upL_no s k hb)
        go_wp2_with (go_at_call 20; refine (ref_has s _ s0 s1 _).mono ?_; rintro e w' ⟨rfl, rfl⟩)
        go_roundw
        case rel => exact ⟨k + 1, by omega, by go_num, by rw [hY.out]; exact hown, hnx⟩
        case measure => simp [intOf]; omega
    · obtain rfl : k = 8 := by omega
      go_wp2
      go_ret
      exact ⟨_, rfl, RowI.of_own hown, hnx⟩

set_option maxHeartbeats 1000000 in
theorem ref_nth (s n : Int) (s0 : 0 ≤ s) (s1 : s < 256) (n0 : -9223372036854775808 ≤ n) (n1 : n ≤ 9223372036854775807) (w : World) :
    Calls Try.prog 27 #[.int .u8 s, .int .i64 n] w fun e w' => e = .returned (.tuple #[.int .i64 (nthV s n), .bool (nthB s n)]) ∧ Below w.heap.size w w' := by
  have hl8 := len_allL s
  by_cases hz : (allL s).length = 0
  · have hnil : allL s = [] := List.eq_nil_of_length_eq_zero hz
    have hv : nthV s n = 0 := by unfold nthV; rw [hnil]; rfl
    have hb : nthB s n = false := by unfold nthB; rw [hnil]; rfl
    rw [hv, hb]
    have hA := fun w => ref_all s s0 s1 w
    rw [hnil] at hA
    clear hv hb hnil hz hl8
    go_enter Try.func27, Try.ntmps27
    go_wp2_with (go_at_call 18; refine (hA _).mono ?_; clear hA; rintro e w1 ⟨v, rfl, ⟨A, c, rfl, hn, hc⟩, hb1⟩)
    go_ret2
    exact ⟨rfl, hb1⟩
  · obtain ⟨m, hm⟩ : ∃ m, m = (allL s).length := ⟨_, rfl⟩
    have hA := fun w => ref_all s s0 s1 w
    have hat : atL s n = n % (m : Int) := by unfold atL; rw [if_neg (by omega), hm]
    have k0 := atL_0 s n
    have k1 := atL_lt s n hz
    have hV : Hid (nthV s n = (allL s)[(atL s n).toNat]?.getD 0) := Lib.hid rfl
    have hB : nthB s n = true := by
      unfold nthB
      cases h : allL s with
      | nil => rw [h] at hz; simp at hz
      | cons a b => rfl
    rw [hB]
    clear hB
    have l1 := Int.lt_tmod_of_pos n (by omega : 0 < (m : Int))
    have l2 := Int.tmod_lt_of_pos n (by omega : 0 < (m : Int))
    have ht : n.tmod m = n % (m : Int) - if 0 ≤ n ∨ (m : Int) ∣ n then 0 else (m : Int) := by
      rw [Int.tmod_eq_emod]; split <;> simp
    have hneg : n.tmod (m : Int) < 0 → n.tmod (m : Int) + m = atL s n := by
      intro h
      rw [hat]
      split at ht
      · have := Int.emod_nonneg n (by omega : (m : Int) ≠ 0); omega
      · omega
    have hpos : ¬ n.tmod (m : Int) < 0 → n.tmod (m : Int) = atL s n := by
      intro h
      rw [hat]
      split at ht
      · omega
      · have := Int.emod_lt_of_pos n (by omega : 0 < (m : Int)); omega
    have hz' : (m == 0) = false := by simp; omega
    rw [← hm] at hl8 k1 hz
    have Hm := Lib.hid hm
    have hm1 : 1 ≤ m := by omega
    obtain ⟨K, hK⟩ : ∃ K : Nat, (K : Int) = atL s n := ⟨(atL s n).toNat, by omega⟩
    have hKm : K < m := by omega
    have HV : nthV s n = (allL s)[K]?.getD 0 := by rw [hV.out, ← hK]; simp
    have hC : ∀ w, Calls Try.prog 18 #[.int .u8 s] w fun e w' => ∃ (g c : Nat), e = .returned (.slice (some ⟨g, 0, none⟩) m c) ∧ w'.cell? ⟨g, K, none⟩ = some (.int .i64 (nthV s n)) ∧ Below w.heap.size w w' := fun w =>
      (hA w).mono fun e w1 ⟨v, he, ⟨A, c, hv, _, hc⟩, hb⟩ => by
        obtain ⟨g, hA', _, hcell⟩ := hc K (by omega)
        exact ⟨g, c, by rw [he, hv, hA', hm], by rw [hcell, HV], hb⟩
    rw [← hK] at hneg hpos
    have hm8 : m ≤ 8 := hl8
    have hK8 : K ≤ 7 := by omega
    clear hat ht hV hm k0 k1 hK hz HV hA Hm hl8
    by_cases hq : n.tmod (m : Int) < 0
    · have he := hneg hq
      have e1 : wrap64 (K : Int) = K := by rw [← he]; simp only [wrap64]; omega
      clear hneg hpos
      go_enter Try.func27, Try.ntmps27
      go_wp2_with (go_at_call 18; refine (hC _).mono ?_; clear hC; rintro e w1 ⟨g, c, rfl, hcell, hb1⟩)
      go_ret2
      exact ⟨rfl, hb1⟩
    · have he := hpos hq
      clear hneg hpos hq l1 l2
      go_enter Try.func27, Try.ntmps27
      go_wp2_with (go_at_call 18; refine (hC _).mono ?_; clear hC; rintro e w1 ⟨g, c, rfl, hcell, hb1⟩)
      go_ret2
      exact ⟨rfl, hb1⟩
end Go.Proofs
