import Derived.Test.YtoddffpbbnicpaaRvD
namespace Go.Proofs
open Go.RowKit
set_option linter.unusedVariables false

section
variable {w : World} {q g h r M : Nat} {S : List Nat} {L : List Int} {N : Option Int}
theorem rtake_ring (h : RefAt w r S M L N) (b : Bool) (hb : (b && N.isSome) = false) (hm : L.length ≤ M) (h2 : 2 ≤ M) (hl : M ≤ 4096) :
    Calls Try.prog 34 #[.pointer (some ⟨r, 0, none⟩), .bool b] w fun e w' => ∃ v s, e = .returned (.tuple #[v, .bool false, s]) ∧ RTook r S M v s ((kickL M L N).take 1) (kickS M L N) (kickL M L N).tail none w w' := by
  cases N with
  | none => exact rtake_none h b
  | some y =>
    have : b = false := by simpa using hb
    subst this
    exact rtake_some h hm h2 hl
theorem kickS_len (M : Nat) (L : List Int) (N : Option Int) (h : L.length ≤ 4096) : (kickS M L N).length ≤ 8192 := by
  cases N <;> simp only [kickS, List.length_nil, putS] <;> (try split) <;> simp [List.length_take] <;> omega
set_option maxRecDepth 100000 in
set_option maxHeartbeats 3200000 in
theorem do3_next {y : Int} (H : Two w q g h r S M L (some y)) (G : Int) (A : Option Addr) (n c : Nat) :
    Calls Try.prog 12 #[.pointer (some ⟨q, 0, none⟩), .pointer (some ⟨r, 0, none⟩), .agg #[.int .i64 3, .int .i64 G, .bool true, .slice A n c]] w (DoPost q g h r S M L (some y) w) := by
  unfold DoPost
  have hbG : w.heap.size ∉ [q, g, h] := fun hm => by have := H.queue.lt _ hm; omega
  have HG := Lib.hid hbG
  have hq := take_next (H.queue.quiet ((Chg.refl _ _).alloc (.cells #[.int .i64 3, .int .i64 G, .bool true, .slice A n c] 35)))
  have HRF := Lib.hid (fun w1 (hc : Chg [q, g, h] (w.alloc (.cells #[.int .i64 3, .int .i64 G, .bool true, .slice A n c] 35)) w1) => rtake_next ((H.quiet ((Chg.refl _ _).alloc _)).rest hc))
  have HST := Lib.hid (fun w1 w2 w3 hQ h1 hT hc => H.step (w1 := w1) (w2 := w2) (w3 := w3) (L' := L) (N' := none) ((Chg.refl _ _).alloc (.cells #[.int .i64 3, .int .i64 G, .bool true, .slice A n c] 35)) hQ h1 (Chg.refl _ _) hT hc)
  have hsame := fun W => rsame_any (Rd.nil W) (Rd.nil W) (by simp) (by simp)
  simp only [beq_self_eq_true] at hsame
  clear H hbG
  have hyy : (y == y) = true := by simp
  go_enter Try.func12, Try.ntmps12
  go_wp2_with (first
    | (go_at_call 16; refine hq.mono ?_; rintro e w1 ⟨rfl, hQ, hc⟩; have k1 := ((Blk.new w 35 #[.int .i64 3, .int .i64 G, .bool true, .slice A n c]).chg hc HG.out).cell 2; have HQ := Lib.hid hQ; have HC := Lib.hid hc; clear hQ hc)
    | (go_at_call 34; refine (HRF.out _ HC.out).mono ?_; rintro e w2 ⟨v, rfl, hT⟩; obtain ⟨A1, c1, rfl, _, _, _, ho⟩ := hT.1.open_; obtain ⟨b, o, rfl, _, hcz⟩ := ho 0 y rfl; rw [Nat.add_zero] at hcz; simp only [List.length_cons, List.length_nil]; have HT := Lib.hid hT; clear hT ho)
    | (go_at_call 23; refine (hsame _).mono ?_; rintro e w3 ⟨rfl, hc3⟩; have hcz3 := hc3.cell (p := ⟨b, o, none⟩) (World.block_lt_of_cell? _ _ hcz) (by simp); rw [hcz] at hcz3; have HC3 := Lib.hid hc3; clear hc3))
  go_ret
  exact ⟨rfl, _, _, HST.out _ _ _ HQ.out HC.out HT.out.2.2.2.2 HC3.out, fun h => by unfold Nd at *; simp at h ⊢; exact h.2⟩
set_option maxRecDepth 100000 in
set_option maxHeartbeats 3200000 in
theorem do3_ring (H : Two w q g h r S M L N) (G : Int) (yes : Bool) (hb : (yes && N.isSome) = false) (A : Option Addr) (n c : Nat) :
    Calls Try.prog 12 #[.pointer (some ⟨q, 0, none⟩), .pointer (some ⟨r, 0, none⟩), .agg #[.int .i64 3, .int .i64 G, .bool yes, .slice A n c]] w (DoPost q g h r S M L N w) := by
  unfold DoPost
  obtain ⟨hs1, hs2, hs3, hs4⟩ := H.small
  have hbG : w.heap.size ∉ [q, g, h] := fun hm => by have := H.queue.lt _ hm; omega
  have HG := Lib.hid hbG
  have hrl := H.ref.lt _ H.ref.mem
  have hq := take_ring (H.queue.quiet ((Chg.refl _ _).alloc (.cells #[.int .i64 3, .int .i64 G, .bool yes, .slice A n c] 35))) yes hb
  have HRF := Lib.hid (fun w1 (hc : Chg [q, g, h] (w.alloc (.cells #[.int .i64 3, .int .i64 G, .bool yes, .slice A n c] 35)) w1) => rtake_ring ((H.quiet ((Chg.refl _ _).alloc _)).rest hc) yes hb hs2 hs3 hs4)
  have HST := Lib.hid (fun w1 w2 w3 hQ h1 hT hc => H.step (w1 := w1) (w2 := w2) (w3 := w3) (L' := (kickL M L N).tail) (N' := none) ((Chg.refl _ _).alloc (.cells #[.int .i64 3, .int .i64 G, .bool yes, .slice A n c] 35)) hQ h1 (Chg.refl _ _) hT hc)
  have HND := Lib.hid (fun h : Nd L N => Nd.tail (Nd.kick (M := M) h))
  have hsz := kickS_len M L N hs1
  obtain ⟨X, hX⟩ : ∃ X, X = kickS M L N := ⟨_, rfl⟩
  obtain ⟨K, hK⟩ : ∃ K, K = kickL M L N := ⟨_, rfl⟩
  rw [← hX, ← hK] at hq HRF
  rw [← hX] at hsz
  rw [← hK] at HST HND
  have hsame := fun W v1 v2 (h1 : Rd W v1 X) (h2 : Rd W v2 X) => rsame_any h1 h2 hsz hsz
  simp only [beq_self_eq_true] at hsame
  clear H hbG hs1 hs2 hs3 hs4 hX hK hsz hb
  cases K with
  | nil =>
    simp only [List.headD_nil, ne_eq, not_true_eq_false, decide_false, List.take_nil, List.tail_nil] at hq HRF
    go_enter Try.func12, Try.ntmps12
    go_wp2_with (first
      | (go_at_call 16; refine hq.mono ?_; rintro e w1 ⟨v, rfl, hT⟩; have k1 := ((Blk.new w 35 #[.int .i64 3, .int .i64 G, .bool yes, .slice A n c]).chg hT.2.2.2 HG.out).cell 2; have HT := Lib.hid hT; clear hT)
      | (go_at_call 34; refine (HRF.out _ HT.out.2.2.2).mono ?_; rintro e w2 ⟨v2, s2, rfl, hU⟩; obtain ⟨A1, c1, rfl, _⟩ := hU.1.open_; simp only [List.length_nil]; have HV := Lib.hid (hU.2.2.2.2.choose_spec.2.2); have HU := Lib.hid hU; clear hU)
      | (go_at_call 23; refine (hsame _ _ _ (HT.out.rd.chg HV.out (fun k hk hm => by have := HT.out.2.2.1 k hk; simp at this hm; omega)) HU.out.2.1).mono ?_; rintro e w3 ⟨rfl, hc⟩; have HC := Lib.hid hc; clear hc))
    go_ret
    exact ⟨rfl, _, _, HST.out _ _ _ HT.out.1 HT.out.2.2.2 HU.out.2.2.2.2 HC.out, HND.out⟩
  | cons z K' =>
    simp only [List.headD_cons, ne_eq, reduceCtorEq, not_false_eq_true, decide_true, List.tail_cons] at hq HRF
    have hzz : (z == z) = true := by simp
    go_enter Try.func12, Try.ntmps12
    go_wp2_with (first
      | (go_at_call 16; refine hq.mono ?_; rintro e w1 ⟨v, rfl, hT⟩; have k1 := ((Blk.new w 35 #[.int .i64 3, .int .i64 G, .bool yes, .slice A n c]).chg hT.2.2.2 HG.out).cell 2; have HT := Lib.hid hT; clear hT)
      | (go_at_call 34; refine (HRF.out _ HT.out.2.2.2).mono ?_; rintro e w2 ⟨v2, s2, rfl, hU⟩; obtain ⟨A1, c1, rfl, _, _, _, ho⟩ := hU.1.open_; obtain ⟨b, o, rfl, _, hcz⟩ := ho 0 z rfl; rw [Nat.add_zero] at hcz; simp only [List.take_succ_cons, List.take_zero, List.length_cons, List.length_nil]; have HV := Lib.hid (hU.2.2.2.2.choose_spec.2.2); have HU := Lib.hid hU; clear hU ho)
      | (go_at_call 23; refine (hsame _ _ _ (HT.out.rd.chg HV.out (fun k hk hm => by have := HT.out.2.2.1 k hk; simp at this hm; omega)) HU.out.2.1).mono ?_; rintro e w3 ⟨rfl, hc⟩; have hcz3 := hc.cell (p := ⟨b, o, none⟩) (World.block_lt_of_cell? _ _ hcz) (by simp); rw [hcz] at hcz3; have HC := Lib.hid hc; clear hc))
    go_ret
    exact ⟨rfl, _, _, HST.out _ _ _ HT.out.1 HT.out.2.2.2 HU.out.2.2.2.2 HC.out, HND.out⟩
theorem do3 (H : Two w q g h r S M L N) (G : Int) (yes : Bool) (A : Option Addr) (n c : Nat) :
    Calls Try.prog 12 #[.pointer (some ⟨q, 0, none⟩), .pointer (some ⟨r, 0, none⟩), .agg #[.int .i64 3, .int .i64 G, .bool yes, .slice A n c]] w (DoPost q g h r S M L N w) := by
  by_cases hb : (yes && N.isSome) = false
  · exact do3_ring H G yes hb A n c
  · obtain ⟨h1, h2⟩ : yes = true ∧ N.isSome = true := by
      rw [Bool.not_eq_false, Bool.and_eq_true] at hb
      exact hb
    subst h1
    cases N with
    | none => cases h2
    | some y => exact do3_next H G A n c
end
end Go.Proofs
