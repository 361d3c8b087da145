import Derived.Test.YtoddffpbbnicpaaRuG
import Derived.Laws.AppendOwnNone
namespace Go.Proofs
open Go.RowKit
set_option linter.unusedVariables false

/-- What a taking comes to: those that went, a row of its own; and the ring with the rest. -/
def Took (w w' : World) (g h M : Nat) (v : Value) (l L : List Int) : Prop :=
  RingAt w' g h M L ∧ Row w' 3 1 v l.length (ints l) ∧ (∀ k ∈ foot v, w.heap.size ≤ k) ∧ Chg [g, h] w w'
theorem take_shorter (L : List Int) (k : Nat) (hk : k < L.length) : ∃ y, L.drop k = y :: L.drop (k + 1) ∧ L.take (k + 1) = L.take k ++ [y] := by
  refine ⟨L[k], List.drop_eq_getElem_cons hk, ?_⟩
  rw [List.take_succ_eq_append_getElem hk]
theorem Rd.one (w : World) (y : Int) : Rd (w.alloc (.cells #[.int .i64 y] 3)) (.slice (some ⟨w.heap.size, 0, none⟩) 1 1) [y] :=
  ⟨_, 1, rfl, by simp, by unfold maxLen; omega, fun h => (by cases h), fun a ha => by
    cases ha
    refine ⟨_, 0, _, rfl, Blk.new w 3 _, by simp, fun j x hj => ?_⟩
    match j, hj with
    | 0, hj => simp at hj; simp [hj]⟩
theorem Took.step {w wr w2 w3 : World} {g h M : Nat} {v v' : Value} {l L : List Int} {y : Int} (hT : Took w wr g h M v l (y :: L)) (hlt : ∀ k ∈ [g, h], k < w.heap.size) (H2 : RingAt w2 g h M L) (h2 : Chg [g, h] wr w2)
    (hr : Row w3 3 1 v' (l ++ [y]).length (ints (l ++ [y]))) (hg : (w2.alloc (.cells #[.int .i64 y] 3)).grownBy w3 v.ownBlock) (hf : ∀ k ∈ foot v', k ∈ foot v ∨ (w2.alloc (.cells #[.int .i64 y] 3)).heap.size ≤ k) : Took w w3 g h M v' (l ++ [y]) L := by
  obtain ⟨_, hrow, hfr, hc⟩ := hT
  have z1 := hc.size
  have z2 := h2.size
  have hc3 : Chg [g, h] w (w2.alloc (.cells #[.int .i64 y] 3)) := (hc.trans h2 (fun k hk => .inl hk)).alloc _
  refine ⟨(H2.quiet ((Chg.refl _ _).alloc _)).same fun k hk => hg.block k (by have := hlt k hk; simp; omega) (fun e => ?_), hr, fun k hk => ?_, hc3.grown hg (fun k hk => .inr (hfr k (row_mem hk)))⟩
  · have := hfr k (row_mem e.symm)
    have := hlt k hk
    omega
  · rcases hf k hk with h9 | h9
    · exact hfr k h9
    · simp at h9; omega
set_option maxHeartbeats 3200000 in
set_option maxRecDepth 100000 in
theorem take_any {w : World} {g h M : Nat} {L : List Int} (H : RingAt w g h M L) (n : Int) (n0 : -9223372036854775808 ≤ n) (n1 : n ≤ 9223372036854775807) :
    Calls Try.prog 59 #[.pointer (some ⟨g, 0, none⟩), .int .i64 n] w fun e w' => ∃ v, e = .returned v ∧ Took w w' g h M v (L.take n.toNat) (L.drop n.toNat) := by
  obtain ⟨i0, hi0, hz0, hz1, hz2⟩ := info_parts Try.num_info
  have hmany : L.length ≤ 4096 := by obtain ⟨_, _, _, hl, _⟩ := H; have := hl.many; have := hl.z1; omega
  have HA := len_any H
  have hlt := H.lt
  obtain ⟨m, hm⟩ : ∃ m, m = L.length := ⟨_, rfl⟩
  obtain ⟨N, hN⟩ : ∃ N : Nat, N = min n.toNat L.length := ⟨_, rfl⟩
  rw [← hm] at HA hmany
  have hmin : min n (m : Int) = min n (m : Int) := rfl
  obtain ⟨Q, hQ⟩ : ∃ Q, Q = min n (m : Int) := ⟨_, rfl⟩
  have hQN : Q.toNat = N := by omega
  have hQm : Q ≤ (m : Int) := by omega
  have HQ := Lib.hid hQ.symm
  have HT := Lib.hid (show L.take n.toNat = L.take N ∧ L.drop n.toNat = L.drop N by
    rw [hN]
    rcases Nat.le_total n.toNat L.length with h1 | h1
    · rw [Nat.min_eq_left h1]; exact ⟨rfl, rfl⟩
    · rw [Nat.min_eq_right h1]; simp [List.take_of_length_le h1, List.drop_eq_nil_of_le h1])
  have hNL : N ≤ L.length := by omega
  have HNL := Lib.hid hNL
  have hL5 : L.length ≤ 4096 := by omega
  have HL := Lib.hid hlt
  have HQN := Lib.hid hQN
  clear hmin hQ hN hm hNL hlt hQN
  go_enter Try.func59, Try.ntmps59
  go_wp2_with (go_at_call 49; refine HA.mono ?_; rintro e w' ⟨rfl, rfl⟩)
  rw [HQ.out]
  clear HA
  go_loopw [5, 12] (fun v i wr => ∃ k : Nat, k ≤ N ∧ i = .int .i64 k ∧ Hid (Took w wr g h M v (L.take k) (L.drop k))) (fun _ i _ => N - (intOf i).toNat)
  case atStart => exact ⟨0, Nat.zero_le _, rfl, Lib.hid ⟨H, Row.nil _ _ _, fun k hk => (by cases hk), Chg.refl _ _⟩⟩
  case round =>
    obtain ⟨k, hk, rfl, HT1⟩ := hrel
    by_cases hlt : k < N
    · obtain ⟨y, hd, ht⟩ := take_shorter L k (by have := HNL.out; omega)
      have HH := HT1.out
      rw [hd] at HH
      have HHH := Lib.hid HH
      have hR := HH.1
      have hlen : (L.take k).length + 1 ≤ 5000 := by rw [List.length_take]; omega
      have HHT := Lib.hid ht
      have hQ : (k : Int) < Q := by have := HQN.out; omega
      clear hd ht HH HT1
      go_wp2_with (first
        | (go_at_call 44; refine (pop_some hR).mono ?_; rintro e w2 ⟨rfl, h2, hc2⟩; have H2 := Lib.hid h2; have HC2 := Lib.hid hc2; clear h2 hc2)
        | (at_builtin; refine wpList_append_rd _ rfl _ _ rfl rfl rfl ((HHH.out.2.1.chg HC2.out (fun k hk hm => by have := HHH.out.2.2.1 k hk; have := HL.out k hm; omega)).alloc _) (Rd.one _ y) (by simp; omega) ?_; intro v' w3 hr hg hf; have HR := Lib.hid (HHH.out.step HL.out H2.out HC2.out hr hg hf); clear hr hg hf))
      go_roundw
      case rel => exact ⟨k + 1, by omega, by go_num, Lib.hid (by rw [HHT.out]; exact HR.out)⟩
      case measure => simp [intOf]; omega
    · obtain rfl : k = N := by omega
      have hQ : ¬ ((k : Int) < Q) := by have := HQN.out; omega
      go_wp2
      go_ret
      exact ⟨_, rfl, by rw [HT.out.1, HT.out.2]; exact HT1.out⟩
end Go.Proofs
