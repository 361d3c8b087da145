import Derived.Test.YtgdjagbkpdndgaaGaH
namespace Go.Proofs
open Go.RowKit
set_option linter.unusedVariables false

/-- The queue at q has turned: it has the numbers L now; what is new lies in new blocks. -/
def Turns (q : Nat) (N : List (Nat × Int)) (L : List Int) (w w' : World) : Prop :=
  ∃ N', QAt w' q N' ∧ nu N' = L ∧ (∀ k ∈ bl N', k ∈ bl N ∨ w.heap.size ≤ k) ∧ Chg (q :: bl N) w w'
section
variable {w w' : World} {q : Nat} {N : List (Nat × Int)} {L : List Int}
theorem Turns.stay (H : QAt w q N) (hc : Chg [] w w') : Turns q N (nu N) w w' := ⟨N, H.quiet hc, rfl, fun k hk => .inl hk, hc.any⟩
theorem Turns.later {w2 : World} (H : Turns q N L w w') (hc : Chg [] w' w2) : Turns q N L w w2 := by
  obtain ⟨N', h1, h2, h3, h4⟩ := H
  exact ⟨N', h1.quiet hc, h2, h3, h4.then hc⟩
theorem Turns.before {w0 : World} (hc : Chg [] w0 w) (H : Turns q N L w w') : Turns q N L w0 w' := by
  obtain ⟨N', h1, h2, h3, h4⟩ := H
  have := hc.size
  exact ⟨N', h1, h2, fun k hk => (h3 k hk).imp id (fun h => by omega), (Chg.any hc).trans h4 (fun k hk => .inl hk)⟩
/-- What is read as numbers lies apart from the queue. -/
theorem QAt.apart {v : Value} {l : List Int} (H : QAt w q N) (hR : Rd w v l) : ∀ k ∈ foot v, k ∉ q :: bl N := by
  intro k hk hm
  rcases List.mem_cons.1 hm with rfl | hm
  · exact hR.ty H.queue (by decide) hk
  · obtain ⟨p, hp, rfl⟩ := List.mem_map.1 hm
    obtain ⟨i, hi⟩ := List.mem_iff_getElem?.1 hp
    exact hR.ty (H.node i p.1 p.2 hi) (by decide) hk
theorem put_nil (v : Value) (w : World) : Calls Try.prog 22 #[.pointer none, v] w fun e w' => e = .returned (.tuple #[]) ∧ w' = w := by
  go_enter Try.func22, Try.ntmps22
  go_wp2
  refine bodyPost_ret (results_none rfl _ _ _) rfl ?_
  exact ⟨rfl, rfl⟩
set_option maxHeartbeats 1600000 in
theorem put_any {v : Value} {l : List Int} (H : QAt w q N) (hR : Rd w v l) (hb : N.length + l.length ≤ 100000) :
    Calls Try.prog 22 #[.pointer (some ⟨q, 0, none⟩), v] w fun e w' => e = .returned (.tuple #[]) ∧ Turns q N (nu N ++ l) w w' := by
  have hap := H.apart hR
  obtain ⟨A, c, rfl, _, _, _, o⟩ := hR.open_
  obtain ⟨n, hn⟩ : ∃ n, n = l.length := ⟨_, rfl⟩
  rw [← hn] at hap hb
  have hbd : ∀ k x, l[k]? = some x → ∃ b p, A = some ⟨b, p, none⟩ ∧ b ∉ q :: bl N ∧ b < w.heap.size ∧ w.cell? ⟨b, p + k, none⟩ = some (.int .i64 x) := fun k x hk => by
    obtain ⟨b, p, rfl, h1, h2⟩ := o k x hk
    exact ⟨b, p, rfl, hap b (by simp [foot_some]), h1, h2⟩
  have HB := Lib.hid hbd
  have HN := Lib.hid hn
  rw [← hn]
  have HH := Lib.hid H
  have HS := Lib.hid hb
  clear hR hap o hbd hn H
  go_enter Try.func22, Try.ntmps22
  go_wp2
  go_loopw [10] (fun i wr => ∃ k : Nat, k ≤ n ∧ i = .int .i64 k ∧ Hid (Turns q N (nu N ++ l.take k) w wr)) (fun i _ => n - (intOf i).toNat)
  case atStart => exact ⟨0, Nat.zero_le _, rfl, Lib.hid (by rw [List.take_zero, List.append_nil]; exact Turns.stay HH.out (Chg.refl _ _))⟩
  case round =>
    obtain ⟨k, hk, rfl, HK⟩ := hrel
    by_cases hlt : k < n
    · obtain ⟨x, hx⟩ : ∃ x, l[k]? = some x := ⟨_, List.getElem?_eq_getElem (by rw [← HN.out]; exact hlt)⟩
      obtain ⟨b, p, rfl, hb1, hbl, hc⟩ := HB.out k x hx
      obtain ⟨N', h1, h2, h3, h4⟩ := HK.out
      have e1 := (h4.cell (p := ⟨b, p + k, none⟩) hbl hb1).trans hc
      have c1 := h1.queue.cell 1
      have lq := h1.queue.lt
      simp only [List.getElem?_toArray, List.getElem?_cons_succ, List.getElem?_cons_zero] at c1
      unfold ptrV at c1
      have hlen : N'.length = N.length + k := by
        have := congrArg List.length h2
        rw [nu_len, List.length_append, nu_len, List.length_take, ← HN.out] at this
        omega
      have HT := Lib.hid (show l.take k ++ [x] = l.take (k + 1) by
        obtain ⟨hk9, rfl⟩ := List.getElem?_eq_some_iff.1 hx
        exact (List.take_succ_eq_append_getElem hk9).symm)
      have hj := join_any (b := wr.heap.size) (x := x) (h1.quiet ((Chg.refl [] wr).alloc (.cells #[.int .i64 x, ptrV (nb N' (N'.length - 1)), .pointer none] 63))) (by have := HS.out; omega) (Blk.new wr 63 _) (fun hm => by have := h1.lt _ (List.mem_cons_of_mem _ hm); omega)
      unfold ptrV at hj
      have H1 := Lib.hid h1
      have H2 := Lib.hid h2
      have H3 := Lib.hid h3
      have H4 := Lib.hid h4
      have i0 : (0 : Int) ≤ (k : Int) := by omega
      have i1 : (k : Int) < (n : Int) := by omega
      clear hx hb1 hbl hc h1 h2 h3 h4 hlen
      go_wp2_with (go_at_call 36; refine hj.mono ?_; rintro e w2 ⟨rfl, hq2, hc2, _⟩; have HQ := Lib.hid hq2; have HC := Lib.hid hc2; clear hq2 hc2 hj)
      go_roundw
      case rel =>
        refine ⟨k + 1, by omega, by go_num, Lib.hid ⟨_, HQ.out, ?_, fun j hj => ?_, ?_⟩⟩
        · unfold nu at *
          rw [List.map_append, H2.out, ← HT.out, ← List.append_assoc]; rfl
        · unfold bl at hj
          rw [List.map_append, List.mem_append] at hj
          rcases hj with hj | hj
          · exact H3.out j hj
          · simp at hj
            subst hj
            have := H4.out.size
            exact .inr this
        · refine (H4.out.then ((Chg.refl _ _).alloc _)).trans HC.out (fun j hj => ?_)
          rcases List.mem_cons.1 hj with rfl | hj
          · exact .inl (by simp)
          · exact (H3.out j hj).imp (List.mem_cons_of_mem _) id
      case measure => simp [intOf]; omega
    · obtain rfl : k = n := by omega
      have HE := Lib.hid (show l.take k = l by rw [HN.out, List.take_length])
      go_wp2
      go_end0
      have := HK.out
      rw [HE.out] at this
      exact ⟨rfl, this⟩
end
end Go.Proofs
