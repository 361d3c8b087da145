import Derived.Test.YtoddffpbbnicpaaRvE
namespace Go.Proofs
open Go.RowKit
set_option linter.unusedVariables false

section
variable {w w1 w2 w3 w4 wa : World} {q g h r M : Nat} {S : List Nat} {L L' : List Int} {N N' : Option Int}
/-- A call on the queue that tells numbers, one on the document's, and a scratching of what was told. -/
theorem Two.stepScr {v : Value} {l : List Int} (H : Two w q g h r S M L N) (ha : Chg [] w wa) (hQ : QTurn q g h M v l L' N' wa w1) (hT : RTurns r S M L' N' w1 w2) (hc : Chg [] w2 w3) (hs : Chg (foot v) w3 w4) : Does q g h r S M L' N' w w4 := by
  obtain ⟨q1, q2, q3, q4⟩ := hQ
  have z0 := ha.size
  have z1 := q4.size
  have hvl := q2.lt
  obtain ⟨S', t1, t2, t3⟩ := id hT
  have z2 := t3.size
  have z3 := hc.size
  have hlq := H.queue.lt
  have hlS := H.ref.lt
  obtain ⟨_, D1, D2, D3⟩ := H.step ha q1 q4 (Chg.refl _ _) hT hc
  have hfull : ∀ k ∈ S', k ∉ foot v := fun k hk hm => by
    have h1 := q3 k hm
    have h2 := hvl k hm
    rcases t2 k hk with h9 | h9
    · have := hlS k h9; omega
    · omega
  refine ⟨S', ⟨?_, (t1.quiet hc).chg hs hfull, fun k hk hS => ?_⟩, fun k hk => (t2 k hk).imp id (fun h9 => by omega), D3.trans hs (fun k hk => .inr (by have := q3 k hk; omega))⟩
  · exact D1.queue.chg hs (fun k hk hm => by have := q3 k hm; have := hlq k hk; omega)
  · rcases t2 k hS with h9 | h9
    · exact H.apart k hk h9
    · have := hlq k hk; omega
set_option maxRecDepth 100000 in
set_option maxHeartbeats 3200000 in
theorem do4 (H : Two w q g h r S M L N) (G : Int) (yes : Bool) (A : Option Addr) (n c : Nat) :
    Calls Try.prog 12 #[.pointer (some ⟨q, 0, none⟩), .pointer (some ⟨r, 0, none⟩), .agg #[.int .i64 4, .int .i64 G, .bool yes, .slice A n c]] w (DoPost q g h r S M L N w) := by
  unfold DoPost
  obtain ⟨hs1, hs2, hs3, hs4⟩ := H.small
  have hbG : w.heap.size ∉ [q, g, h] := fun hm => by have := H.queue.lt _ hm; omega
  have hbr : w.heap.size ∉ [r] := fun hm => by have := H.ref.lt _ (H.ref.mem); simp at hm; omega
  have HG := Lib.hid hbG
  have HR := Lib.hid hbr
  have hq := qremove_any (H.queue.quiet (((Chg.refl _ _).alloc (.cells #[.int .i64 4, .int .i64 G, .bool yes, .slice A n c] 35)).drew)) G
  have HRF := Lib.hid (fun w1 (hc : Chg [q, g, h] (w.alloc (.cells #[.int .i64 4, .int .i64 G, .bool yes, .slice A n c] 35)).drew w1) => rremove_any ((H.quiet (((Chg.refl _ _).alloc _).drew)).rest hc) (by omega) G)
  have HST := Lib.hid (fun w1 w2 w3 hQ h1 hT hc => H.step (w1 := w1) (w2 := w2) (w3 := w3) (L' := remL L N G) (N' := remN N G) (((Chg.refl _ _).alloc (.cells #[.int .i64 4, .int .i64 G, .bool yes, .slice A n c] 35)).drew) hQ h1 (Chg.refl _ _) hT hc)
  have HND := Lib.hid (fun h : Nd L N => Nd.remove h G)
  obtain ⟨B, hB⟩ : ∃ B, B = hasQ L N G := ⟨_, rfl⟩
  rw [← hB] at hq HRF
  have hBB : (B == B) = true := by simp
  clear H hbG hbr hs1 hs2 hs3 hs4 hB
  go_enter Try.func12, Try.ntmps12
  go_wp2
  go_region_held3 (fun w' => w'.cell? ⟨w.heap.size, 1, none⟩ = some (.int .i64 G))
    (first | go_keep)
    (first
      | (go_at_call 17; refine hq.mono ?_; rintro e w1 ⟨rfl, hQ, hc⟩; have b5 := (Blk.new w 35 #[.int .i64 4, .int .i64 G, .bool yes, .slice A n c]).drew.chg hc HG.out; have k1 := b5.cell 1; have HB := Lib.hid b5; have HQ := Lib.hid hQ; have HC := Lib.hid hc; clear b5 hQ hc)
      | (go_at_call 35; refine (HRF.out _ HC.out).mono ?_; rintro e w2 ⟨rfl, hU⟩; have b6 := HB.out.chg hU.choose_spec.2.2 HR.out; have k2 := b6.cell 1; have HU := Lib.hid hU; clear b6 hU))
  all_goals
    go_wp2
    go_ret
    exact ⟨rfl, _, _, HST.out _ _ _ HQ.out HC.out HU.out (Chg.refl _ _), HND.out⟩
set_option maxRecDepth 100000 in
set_option maxHeartbeats 3200000 in
theorem do5 (H : Two w q g h r S M L N) (G : Int) (yes : Bool) (A : Option Addr) (n c : Nat) :
    Calls Try.prog 12 #[.pointer (some ⟨q, 0, none⟩), .pointer (some ⟨r, 0, none⟩), .agg #[.int .i64 5, .int .i64 G, .bool yes, .slice A n c]] w (DoPost q g h r S M L N w) := by
  unfold DoPost
  obtain ⟨hs1, hs2, hs3, hs4⟩ := H.small
  have hq := qhas_any (H.queue.quiet (((Chg.refl _ _).alloc (.cells #[.int .i64 5, .int .i64 G, .bool yes, .slice A n c] 35)).drew)) G
  have HRF := Lib.hid (fun w1 (hc : Chg [] w w1) => rhas_any (H.ref.quiet hc) (by omega) G)
  have HST := Lib.hid (fun w1 (hc : Chg [] w w1) => H.does hc)
  obtain ⟨B, hB⟩ : ∃ B, B = hasQ L N G := ⟨_, rfl⟩
  rw [← hB] at hq HRF
  have hBB : (B == B) = true := by simp
  clear H hs1 hs2 hs3 hs4 hB
  go_enter Try.func12, Try.ntmps12
  go_wp2
  go_region_held3 (fun w' => w'.cell? ⟨w.heap.size, 1, none⟩ = some (.int .i64 G))
    (first | go_keep)
    (first
      | (go_at_call 19; refine hq.mono ?_; rintro e w1 ⟨rfl, hc⟩; have k1 := ((Blk.new w 35 #[.int .i64 5, .int .i64 G, .bool yes, .slice A n c]).drew.chg hc (by simp)).cell 1; have HC := Lib.hid ((((Chg.refl [] w).alloc _).drew).then hc); clear hc)
      | (go_at_call 31; refine (HRF.out _ HC.out).mono ?_; rintro e w2 ⟨rfl, rfl⟩))
  all_goals
    go_wp2
    go_ret
    exact ⟨rfl, _, _, HST.out _ HC.out, fun h => h⟩
set_option maxRecDepth 100000 in
set_option maxHeartbeats 6400000 in
theorem do6 (H : Two w q g h r S M L N) (G : Int) (yes : Bool) (aff : List Int) (V : Value) (hV : Bs w V aff) (hf1 : aff = [] ∨ ∀ k ∈ foot V, k ∉ [q, g, h]) (hf2 : aff = [] ∨ ∀ k ∈ foot V, k ≠ r) :
    Calls Try.prog 12 #[.pointer (some ⟨q, 0, none⟩), .pointer (some ⟨r, 0, none⟩), .agg #[.int .i64 6, .int .i64 G, .bool yes, V]] w (DoPost q g h r S M L N w) := by
  unfold DoPost
  obtain ⟨A, c, rfl, _⟩ := id hV
  obtain ⟨hs1, hs2, hs3, hs4⟩ := H.small
  have hbG : w.heap.size ∉ [q, g, h] := fun hm => by have := H.queue.lt _ hm; omega
  have hbr : w.heap.size ∉ [r] := fun hm => by have := H.ref.lt _ (H.ref.mem); simp at hm; omega
  have HG := Lib.hid hbG
  have HR := Lib.hid hbr
  have hrl := H.ref.lt _ H.ref.mem
  have hq := qsteal_any (p := G) (H.queue.quiet ((Chg.refl _ _).alloc (.cells #[.int .i64 6, .int .i64 G, .bool yes, .slice A aff.length c] 35))) (hV.quiet ((Chg.refl _ _).alloc _)) hf1
  have HRF := Lib.hid (fun w1 (hc : Chg [q, g, h] (w.alloc (.cells #[.int .i64 6, .int .i64 G, .bool yes, .slice A aff.length c] 35)) w1) => rsteal_any (p := G) ((H.quiet ((Chg.refl _ _).alloc _)).rest hc) hs1 ((hV.quiet ((Chg.refl _ _).alloc _)).chg hc hf1) hf2)
  have HST := Lib.hid (fun v w1 w2 w3 w4 hQ hT hc hs => H.stepScr (v := v) (w1 := w1) (w2 := w2) (w3 := w3) (w4 := w4) (L' := stealL (mayP aff G) L) (N' := stealN (mayP aff G) L N) (l := stealS (mayP aff G) L N) ((Chg.refl _ _).alloc (.cells #[.int .i64 6, .int .i64 G, .bool yes, .slice A aff.length c] 35)) hQ hT hc hs)
  have HND := Lib.hid (fun h : Nd L N => Nd.steal h (mayP aff G))
  have hsz : (stealS (mayP aff G) L N).length ≤ 8192 := by
    unfold stealS stealR
    have h1 := stl_len_le (mayP aff G) (halfN (L.countP (mayP aff G))) L
    have h2 := List.length_filter_le (mayP aff G) N.toList
    have h3 : N.toList.length ≤ 1 := by cases N <;> simp
    split <;> omega
  obtain ⟨X, hX⟩ : ∃ X, X = stealS (mayP aff G) L N := ⟨_, rfl⟩
  rw [← hX] at hq HRF HST hsz
  have hsame := fun W v1 v2 (h1 : Rd W v1 X) (h2 : Rd W v2 X) => rsame_any h1 h2 hsz hsz
  simp only [beq_self_eq_true] at hsame
  obtain ⟨m, hm⟩ : ∃ m, m = X.length := ⟨_, rfl⟩
  rw [← hm] at hsz
  have HM := Lib.hid hm
  clear H hbG hbr hs1 hs2 hs3 hs4 hX hV hf1 hf2 hm
  go_enter Try.func12, Try.ntmps12
  go_wp2_with (first
    | (go_at_call 18; refine hq.mono ?_; rintro e w1 ⟨v, rfl, hT⟩; have b5 := (Blk.new w 35 #[.int .i64 6, .int .i64 G, .bool yes, .slice A aff.length c]).chg hT.2.2.2 HG.out; have k1 := b5.cell 1; have k3 := b5.cell 3; obtain ⟨A1, c1, rfl, _⟩ := hT.2.1.val; rw [← HM.out] at hT ⊢; have HB := Lib.hid b5; have HT := Lib.hid hT; clear b5 hT)
    | (go_at_call 22; refine (HRF.out _ HT.out.2.2.2).mono ?_; rintro e w2 ⟨v2, rfl, hU⟩; have HV := Lib.hid (hU.2.2.choose_spec.2.2); have HU := Lib.hid hU; clear hU)
    | (go_at_call 23; refine (hsame _ _ _ (HM.out ▸ HT.out.rd.chg HV.out (fun k hk hm => by have := HT.out.2.2.1 k hk; simp at this hm; omega)) HU.out.1).mono ?_; rintro e w3 ⟨rfl, hc⟩; have HC := Lib.hid hc; clear hc))
  have hscr := Scr.start ((HT.out.2.1.chg HV.out (fun k hk hm => by have := HT.out.2.2.1 k hk; simp at this hm; omega)).chg HC.out (fun _ _ h => by cases h))
  rw [← HM.out] at hscr
  have HS := Lib.hid hscr
  clear hscr
  go_loopw [15] (fun i wr => ∃ k : Nat, k ≤ m ∧ i = .int .i64 k ∧ Hid (Scr w3 wr (.slice A1 m c1) m)) (fun i _ => m - (intOf i).toNat)
  case atStart => exact ⟨0, Nat.zero_le _, rfl, HS⟩
  case round =>
    obtain ⟨k, hk, rfl, hs⟩ := hrel
    by_cases hlt : k < m
    · obtain ⟨gg, cap, x, hv, q0, q1⟩ := hs.out.form hlt
      simp only [Value.slice.injEq] at hv
      obtain ⟨rfl, _, rfl⟩ := hv
      have HN := Lib.hid (fun y => hs.out.step hlt y)
      have i0 : (0 : Int) ≤ (k : Int) := by omega
      have i1 : (k : Int) < (m : Int) := by omega
      clear hs
      go_wp2
      go_roundw
      case rel => exact ⟨k + 1, by omega, by go_num, Lib.hid (HN.out _)⟩
      case measure => simp [intOf]; omega
    · obtain rfl : k = m := by omega
      obtain ⟨vs, _, _, hcs⟩ := hs.out
      have HCS := Lib.hid hcs
      clear hs hcs
      go_wp2
      go_ret
      exact ⟨rfl, _, _, HST.out _ _ _ _ _ HT.out HU.out.2.2 HC.out HCS.out, HND.out⟩
theorem doN (H : Two w q g h r S M L N) (k G : Int) (yes : Bool) (A : Option Addr) (n c : Nat) (h1 : k ≠ 1) (h2 : k ≠ 2) (h3 : k ≠ 3) (h4 : k ≠ 4) (h5 : k ≠ 5) (h6 : k ≠ 6) :
    Calls Try.prog 12 #[.pointer (some ⟨q, 0, none⟩), .pointer (some ⟨r, 0, none⟩), .agg #[.int .i64 k, .int .i64 G, .bool yes, .slice A n c]] w (DoPost q g h r S M L N w) := by
  unfold DoPost
  have e1 : (k == 1) = false := by simpa using h1
  have e2 : (k == 2) = false := by simpa using h2
  have e3 : (k == 3) = false := by simpa using h3
  have e4 : (k == 4) = false := by simpa using h4
  have e5 : (k == 5) = false := by simpa using h5
  have e6 : (k == 6) = false := by simpa using h6
  have HST := Lib.hid (fun w1 (hc : Chg [] w w1) => H.does hc)
  clear H h1 h2 h3 h4 h5 h6
  go_enter Try.func12, Try.ntmps12
  go_wp2
  go_ret
  exact ⟨rfl, _, _, HST.out _ ((Chg.refl _ _).alloc _), fun h => h⟩
/-- One act, on both. -/
theorem do_any (H : Two w q g h r S M L N) (a : ActV) (T : Nat) (hf : a.Fits w T) (h1 : ∀ k ∈ [q, g, h], T ≤ k) (h2 : T ≤ r) :
    Calls Try.prog 12 #[.pointer (some ⟨q, 0, none⟩), .pointer (some ⟨r, 0, none⟩), a.val] w (DoPost q g h r S M L N w) := by
  obtain ⟨kind, G, yes, aff, V⟩ := a
  have hb := hf.bs
  have hfar := hf.far
  simp only at hb hfar
  unfold ActV.val
  simp only
  obtain ⟨A, c, hV, _⟩ := id hb
  by_cases e6 : kind = 6
  · subst e6
    exact do6 H G yes aff V hb (hfar.imp id (fun hh k hk hm => by have := hh k hk; have := h1 k hm; omega)) (hfar.imp id (fun hh k hk e => by have := hh k hk; omega))
  · subst hV
    by_cases e1 : kind = 1
    · subst e1; exact do1 H G yes A _ c
    · by_cases e2 : kind = 2
      · subst e2; exact do2 H G yes A _ c
      · by_cases e3 : kind = 3
        · subst e3; exact do3 H G yes A _ c
        · by_cases e4 : kind = 4
          · subst e4; exact do4 H G yes A _ c
          · by_cases e5 : kind = 5
            · subst e5; exact do5 H G yes A _ c
            · exact doN H kind G yes A _ c e1 e2 e3 e4 e5 e6
end
end Go.Proofs
