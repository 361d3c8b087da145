/-
  Proved: a PC from 0 to one more than how many whole instructions there are is so still, however many steps there are. No conditions.
-/
import Derived.Test.YtojpllmghfafjaaM13
import Derived.Test.YtojpllmghfafjaaM12
import Derived.Test.YtojpllmghfafjaaRows
import Derived.WalkKit
import Derived.Below
import Derived.ChangeSame
import Derived.ProofKit
import Derived.OpenShut
section
namespace Go.Proofs
open Go.ChangeShapes Go.WideShapes Go.ChangeAt Go.RowKit Go.Deep
set_option linter.unusedVariables false
theorem okWide_array {P : Program} {w : World} {r : Reach} {base : Nat} {t e : TypeId} {n : Nat} {v : Value} (ht : P.underlying t = some (.array n e)) (h : Value.okWide P w r base t v) : ∃ cs, v = .agg cs := by
  simp only [Value.okWide, ht] at h
  obtain ⟨cs, h1, _⟩ := h
  exact ⟨cs, h1⟩
theorem open_r {H : Type} {enc : TypeId × Value → H} {w : World} {base : Nat} {held : Bool} {v : Value} {d : DataW H} {ps : List MemPlace} {r : Reach} {b0 : Nat} (hv : Value.okWide Try.prog w r b0 27 v) (h : DataW.Trod enc Try.prog w base (fun _ => true) held 27 v d ps) :
    ∃ r : Nat → Int, (∀ i, 0 ≤ r i) ∧ (∀ i, r i < 18446744073709551616) ∧ v = .agg #[.int .u64 (r 0), .int .u64 (r 1), .int .u64 (r 2), .int .u64 (r 3), .int .u64 (r 4), .int .u64 (r 5), .int .u64 (r 6), .int .u64 (r 7)] := by
  obtain ⟨cs, rfl⟩ := okWide_array Try.underlying27 hv
  obtain ⟨fuel, hf⟩ := h
  obtain ⟨r, r0, r1, e⟩ := open_regs hf
  refine ⟨r, r0, r1, ?_⟩
  obtain ⟨cs⟩ := cs
  simp only [Value.cells] at e
  rw [e]
end Go.Proofs
end
section
namespace Go.Proofs
open Go.RowKit
set_option linter.unusedVariables false
set_option linter.unusedSimpArgs false

/-! ### What a step leaves -/
theorem put_same (g : Gr) : g.put 0 (g.r 0) = g := by
  obtain ⟨st, su, d0, d1, c0, c1, af, pg, pc, r, cd, un⟩ := g
  simp only [Gr.put]
  congr
  funext i
  split
  · rename_i h; rw [h]
  · rfl
/-- Behind what was done: one register at most is another one, and PC. -/
def Kept (n : Nat) (g0 g : Gr) : Prop := ∃ (j : Nat) (v : Int), 0 ≤ v ∧ v < 18446744073709551616 ∧ g = { g0.put j v with pc := g.pc } ∧ (g.pc = g0.pc + 1 ∨ (0 ≤ g.pc ∧ g.pc ≤ n))
theorem kept_next {n : Nat} {g0 : Gr} (h : g0.ok) (g : Gr) (hg : g = { g0 with pc := g.pc }) (hp : g.pc = g0.pc + 1 ∨ (0 ≤ g.pc ∧ g.pc ≤ n)) : Kept n g0 g :=
  ⟨0, g0.r 0, h.r0 0, h.r1 0, by rw [put_same]; exact hg, hp⟩
theorem doneP_kept {n : Nat} {x : Ins} {g0 : Gr} (h0 : g0.ok) : (∃ k, doneP n x g0 = .inl k ∧ (k = 6 ∨ k = 7)) ∨ ∃ g c k, doneP n x g0 = .inr (g, c, k) ∧ Kept n g0 g ∧ (k = 1 ∨ k = 2) := by
  have hnum := x.num_lt
  obtain ⟨D, hD⟩ : ∃ D, D = doneP n x g0 := ⟨_, rfl⟩
  rw [← hD]
  unfold doneP at hD
  simp only at hD
  have hput : ∀ (j : Nat) (v : Int), 0 ≤ v → v < 18446744073709551616 → Kept n g0 (g0.next.put j v) := fun j v a b => ⟨j, v, a, b, rfl, .inl rfl⟩
  have hn : Kept n g0 g0.next := kept_next h0 _ rfl (.inl rfl)
  have b0 := fun i => h0.r0 i
  have b1 := fun i => h0.r1 i
  repeat' split at hD
  all_goals subst hD
  all_goals first
    | exact .inl ⟨_, rfl, .inl rfl⟩
    | exact .inl ⟨_, rfl, .inr rfl⟩
    | exact .inr ⟨_, _, _, rfl, hn, .inl rfl⟩
    | exact .inr ⟨_, _, _, rfl, hn, .inr rfl⟩
    | (rename_i hp; exact .inr ⟨_, _, _, rfl, kept_next h0 _ rfl (.inr hp), .inl rfl⟩)
    | skip
  · exact .inr ⟨_, _, _, rfl, hput _ _ (by omega) (by omega), .inl rfl⟩
  · rename_i hF
    have hF' : g0.next.r x.b.toNat + g0.next.r x.c.toNat < 18446744073709551616 := of_decide_eq_true hF
    refine .inr ⟨_, _, _, rfl, hput _ _ ?_ ?_, .inl rfl⟩
    · unfold addN; rw [if_pos hF']; have := b0 x.b.toNat; have := b0 x.c.toNat; show 0 ≤ g0.r _ + g0.r _; omega
    · unfold addN; rw [if_pos hF']; exact hF'
  · rename_i hF
    have hF' : g0.next.r x.c.toNat ≤ g0.next.r x.b.toNat := of_decide_eq_true hF
    refine .inr ⟨_, _, _, rfl, hput _ _ ?_ ?_, .inl rfl⟩
    · unfold subN; rw [if_neg (by omega)]; omega
    · unfold subN; rw [if_neg (by omega)]; have h1 : g0.next.r x.b.toNat < _ := b1 x.b.toNat; have h2 : 0 ≤ g0.next.r x.c.toNat := b0 x.c.toNat; omega
  · rename_i hF
    have hF' : g0.next.r x.b.toNat * g0.next.r x.c.toNat < 18446744073709551616 := of_decide_eq_true hF
    refine .inr ⟨_, _, _, rfl, hput _ _ ?_ ?_, .inl rfl⟩
    · unfold mulN; rw [if_pos hF']; exact Int.mul_nonneg (b0 x.b.toNat) (b0 x.c.toNat)
    · unfold mulN; rw [if_pos hF']; exact hF'
  · rename_i hF
    exact .inr ⟨_, _, _, rfl, hput _ _ hF (by have := h0.c1; show g0.cd < _; omega), .inl rfl⟩
/-- A step: over; bad; or done. -/
theorem stepP_kept (l : List UInt8) (g : Gr) (h0 : g.ok) :
    ((stepP l g).2.2 = 3 ∧ (stepP l g).1 = g ∧ ((l.length / 4 : Nat) : Int) ≤ g.pc) ∨
    ((stepP l g).2.2 = 4 ∧ g.pc ≤ ((l.length / 4 : Nat) : Int) ∧ ∃ e, (e = 6 ∨ e = 7) ∧ (stepP l g).1 = g.bad e) ∨
    (((stepP l g).2.2 = 1 ∨ (stepP l g).2.2 = 2) ∧ g.pc ≤ ((l.length / 4 : Nat) : Int) ∧ Kept (l.length / 4) g (stepP l g).1) := by
  have hdec : (decodeP l g.pc).2 = 4 → ((l.length / 4 : Nat) : Int) ≤ g.pc := fun h => by
    unfold decodeP at h
    split at h
    · rename_i h1; omega
    · split at h
      · simp at h
      · split at h <;> simp at h
  have hdec7 : (decodeP l g.pc).2 ≠ 4 → (decodeP l g.pc).2 ≠ 0 → (decodeP l g.pc).2 = 7 := fun h4 h0 => by
    unfold decodeP at h4 h0 ⊢
    split
    · rename_i h1; rw [if_pos h1] at h4; simp at h4
    · rename_i h1
      rw [if_neg h1] at h4 h0
      split
      · rfl
      · rename_i h2
        rw [if_neg h2] at h4 h0
        split
        · rename_i h3; rw [if_pos h3] at h0; simp at h0
        · rfl
  unfold stepP
  by_cases h1 : (decodeP l g.pc).2 = 4 ∨ ((l.length / 4 : Nat) : Int) < g.pc
  · rw [if_pos h1]
    exact .inl ⟨rfl, rfl, h1.elim hdec (fun h => Int.le_of_lt h)⟩
  · rw [if_neg h1]
    have h2 : (decodeP l g.pc).2 ≠ 4 := fun e => h1 (.inl e)
    have h3 : g.pc ≤ ((l.length / 4 : Nat) : Int) := by
      rcases Int.lt_or_le ((l.length / 4 : Nat) : Int) g.pc with h | h
      · exact absurd (.inr h) h1
      · exact h
    by_cases h4 : (decodeP l g.pc).2 ≠ 0
    · rw [if_pos h4]
      exact .inr (.inl ⟨rfl, h3, 7, .inr rfl, by rw [hdec7 h2 h4]⟩)
    · rw [if_neg h4]
      rcases doneP_kept (n := l.length / 4) (x := (decodeP l g.pc).1) h0 with ⟨k, e, hk⟩ | ⟨g', c, k, e, hk, hk2⟩
      · rw [e]; exact .inr (.inl ⟨rfl, h3, k, hk, rfl⟩)
      · rw [e]; exact .inr (.inr ⟨hk2, h3, hk⟩)
end Go.Proofs
end
section
namespace Go.Proofs
open Go.RowKit
set_option linter.unusedVariables false
set_option linter.unusedSimpArgs false

/-- A goroutine whose PC is from 0 to one more than there are instructions. -/
structure Good (n : Nat) (g : Gr) : Prop where
  r0 : ∀ i, 0 ≤ g.r i
  r1 : ∀ i, g.r i < 18446744073709551616
  c0 : -9223372036854775808 ≤ g.cd
  c1 : g.cd ≤ 9223372036854775807
  p0 : 0 ≤ g.pc
  p1 : g.pc ≤ (n : Int) + 1
theorem Good.ok {n : Nat} {g : Gr} (h : Good n g) (hn : n ≤ 100) : g.ok := ⟨h.r0, h.r1, by have := h.p0; omega, by have := h.p1; omega, h.c0, h.c1⟩
theorem kept_r {n : Nat} {g0 g : Gr} (h : Kept n g0 g) (h0 : ∀ i, 0 ≤ g0.r i) (h1 : ∀ i, g0.r i < 18446744073709551616) : (∀ i, 0 ≤ g.r i) ∧ (∀ i, g.r i < 18446744073709551616) ∧ g.cd = g0.cd := by
  obtain ⟨j, v, v0, v1, e, _⟩ := h
  rw [e]
  refine ⟨fun i => ?_, fun i => ?_, rfl⟩
  · show 0 ≤ (if i = j then v else g0.r i); split
    · exact v0
    · exact h0 i
  · show (if i = j then v else g0.r i) < _; split
    · exact v1
    · exact h1 i
theorem step_good (l : List UInt8) (hl : l.length ≤ 400) (g : Gr) (h : Good (l.length / 4) g) :
    Good (l.length / 4) (stepP l g).1 ∧ 1 ≤ (stepP l g).2.2 ∧ (stepP l g).2.2 ≤ 4 ∧ ((stepP l g).2.2 ≠ 3 ∨ ((stepP l g).2.2 = 3 ∧ (stepP l g).1 = g ∧ ((l.length / 4 : Nat) : Int) ≤ g.pc)) := by
  have hn : l.length / 4 ≤ 100 := by omega
  rcases stepP_kept l g (h.ok hn) with ⟨hw, hg, hp⟩ | ⟨hw, hp, e, he, hg⟩ | ⟨hw, hp, hk⟩
  · rw [hg, hw]; exact ⟨h, by omega, by omega, .inr ⟨rfl, rfl, hp⟩⟩
  · rw [hg, hw]
    exact ⟨⟨h.r0, h.r1, by show _ ≤ e; omega, by show e ≤ _; omega, by show 0 ≤ g.pc + 1; have := h.p0; omega, by show g.pc + 1 ≤ _; omega⟩, by omega, by omega, .inl (by omega)⟩
  · obtain ⟨k0, k1, kc⟩ := kept_r hk h.r0 h.r1
    have hpc : 0 ≤ (stepP l g).1.pc ∧ (stepP l g).1.pc ≤ ((l.length / 4 : Nat) : Int) + 1 := by
      obtain ⟨_, _, _, _, _, hq⟩ := hk
      have := h.p0
      omega
    exact ⟨⟨k0, k1, by rw [kc]; exact h.c0, by rw [kc]; exact h.c1, hpc.1, hpc.2⟩, by omega, by omega, .inl (by omega)⟩
/-- What StepStays asks of a step, the cells as letters. -/
theorem stay_facts (V : Value) (l : List UInt8) (hl : l.length ≤ 400) (g : Gr) (h : Good (l.length / 4) g) :
    ∃ (A A1 CA : Array Value) (W0 p p1 : Int), g.arr = A ∧ A.size = 19 ∧ A1.size = 19 ∧ CA.size = 6 ∧ A1.all (·.oneCell') = true ∧ CA.all (·.oneCell') = true ∧ A1[8]? = some (.int .i64 p1) ∧ 0 ≤ p1 ∧ p1 ≤ ((l.length / 4 : Nat) : Int) + 1 ∧
    1 ≤ W0 ∧ W0 ≤ 4 ∧ (W0 ≠ 3 ∨ (W0 = 3 ∧ A1 = A ∧ ((l.length / 4 : Nat) : Int) ≤ p1)) ∧ (∀ w, (binOp BinOp.neq 30 (.agg A) (.agg A)).run Try.prog w = .ok (.bool false) w) ∧
    (∃ g', Good (l.length / 4) g' ∧ g'.arr = A1) ∧
    (∀ W, By W V l → Calls Try.prog 9 #[V, .agg A] W fun e w' => e = .returned (.tuple #[.agg A1, .agg CA, .int .i64 W0]) ∧ Below W.heap.size W w') := by
  obtain ⟨hg, w0, w1, hw⟩ := step_good l hl g h
  refine ⟨g.arr, (stepP l g).1.arr, (stepP l g).2.1.arr, (stepP l g).2.2, g.pc, (stepP l g).1.pc, rfl, rfl, rfl, rfl, Gr.one _, Cl.one _, rfl, hg.p0, hg.p1, w0, w1, ?_, neqG g, ⟨_, hg, rfl⟩, fun W hV => do_any V l (by omega) g (h.ok (by omega)) W hV⟩
  rcases hw with hw | ⟨hw, e, hp⟩
  · exact .inl hw
  · exact .inr ⟨hw, by rw [e], by rw [e]; exact hp⟩
/-- What holds in the loop. -/
structure StayAt (w W : World) (n : Nat) (g : Gr) : Prop where
  bg : Blk W w.heap.size 30 g.arr
  go : Good n g
  bl : Below w.heap.size w W
theorem two_chgS {w0 w1 w3 w4 : World} (h : Below w0.heap.size w0 w1) (hC3 : Chg [w1.heap.size] (two w1) w3) (hC4 : Chg [w1.heap.size + 1] w3 w4) : Below w0.heap.size w0 w4 := by
  have hb := h.trans ((two_b w1).mono h.size)
  have := h.size
  exact (hb.trans (hC3.below (by simpa using h.size) hb.size)).trans (hC4.below (by simp; omega) (Nat.le_trans hb.size hC3.size))
set_option maxHeartbeats 4000000 in
set_option maxRecDepth 100000 in
theorem stays_out (V : Value) (l : List UInt8) (g : Gr) (most : Int) (h : 400 < l.length ∨ g.pc < 0 ∨ (l.length / 4 : Nat) + 1 < g.pc ∨ 300 < most) (w : World) (hV : By w V l) (hll : l.length ≤ maxLen) :
    Calls Try.prog 4 #[V, g.val, .int .i64 most] w fun e w' => e = .returned (.bool true) ∧ Below w.heap.size w w' := by
  obtain ⟨A, c, rfl, hc, hc2⟩ := hV.val
  have h8 : g.arr[8]? = some (.int .i64 g.pc) := rfl
  have hL : ((l.length : Nat) : Int) ≤ 9223372036854775807 := by unfold maxLen at hll; omega
  obtain ⟨n, hn⟩ : ∃ n : Nat, n = l.length / 4 := ⟨_, rfl⟩
  have hq : (((l.length : Nat) : Int).tdiv 4) = (n : Int) := by rw [Int.tdiv_eq_ediv_of_nonneg (by omega), hn]; omega
  have hnn : (n : Int) ≤ 2305843009213693952 := by omega
  rw [← hn] at h
  clear hV hll hc hc2 hn
  unfold Gr.val
  generalize g.pc = pc at *
  generalize g.arr = GA at *
  generalize l.length = L at *
  have e1 : wrap64 ((n : Int) + 1) = (n : Int) + 1 := IntWalk.wrap64_in _ (by omega)
  have hk0 := Blk.new w 30 GA
  obtain ⟨W, hW⟩ : ∃ W, W = w.alloc (.cells GA 30) := ⟨_, rfl⟩
  rw [← hW] at hk0
  have hbl : Below w.heap.size w W := by rw [hW]; exact (Below.refl _ _).alloc (Nat.le_refl _) _
  have c8 := (hk0.cell 8).trans h8
  clear hk0 h8
  by_cases h1 : 400 < L
  · have h1' : (400 : Int) < (L : Int) := by omega
    go_enter Try.func4, Try.ntmps4
    go_upto_region 1 with (fail)
    rw [← hW]
    clear hW
    go_wp2_with (go_at_call 8; refine (known_any _).mono ?_; rintro e w9 ⟨rfl, hb9⟩)
    go_ret
    exact ⟨rfl, hbl.trans (hb9.mono hbl.size)⟩
  · have h1' : ¬ (400 : Int) < (L : Int) := by omega
    by_cases h2 : pc < 0
    · go_enter Try.func4, Try.ntmps4
      go_upto_region 1 with (fail)
      rw [← hW]
      clear hW
      go_wp2_with (go_at_call 8; refine (known_any _).mono ?_; rintro e w9 ⟨rfl, hb9⟩)
      go_ret
      exact ⟨rfl, hbl.trans (hb9.mono hbl.size)⟩
    · by_cases h3 : (n : Int) + 1 < pc
      · go_enter Try.func4, Try.ntmps4
        go_upto_region 1 with (fail)
        rw [← hW]
        clear hW
        go_wp2_with (go_at_call 8; refine (known_any _).mono ?_; rintro e w9 ⟨rfl, hb9⟩)
        go_ret
        exact ⟨rfl, hbl.trans (hb9.mono hbl.size)⟩
      · have h4 : 300 < most := by omega
        go_enter Try.func4, Try.ntmps4
        go_upto_region 1 with (fail)
        rw [← hW]
        clear hW
        go_wp2_with (go_at_call 8; refine (known_any _).mono ?_; rintro e w9 ⟨rfl, hb9⟩)
        go_ret
        exact ⟨rfl, hbl.trans (hb9.mono hbl.size)⟩
set_option maxHeartbeats 4000000 in
set_option maxRecDepth 100000 in
theorem stays_in (V : Value) (l : List UInt8) (hl : l.length ≤ 400) (g : Gr) (hg : Good (l.length / 4) g) (most : Int) (hm0 : -9223372036854775808 ≤ most) (hm : most ≤ 300) (w : World) (hV : By w V l) :
    Calls Try.prog 4 #[V, g.val, .int .i64 most] w fun e w' => e = .returned (.bool true) ∧ Below w.heap.size w w' := by
  have hVH := Lib.hid hV
  obtain ⟨Ad, c, rfl, hc, hc2⟩ := hV.val
  have h8 : g.arr[8]? = some (.int .i64 g.pc) := rfl
  have hp0 := hg.p0
  have hp1 := hg.p1
  have hF0 := fun g hg => stay_facts (.slice Ad l.length c) l hl g hg
  obtain ⟨n, hn⟩ : ∃ n : Nat, n = l.length / 4 := ⟨_, rfl⟩
  simp only [← hn] at hF0
  rw [← hn] at hg
  have hF := Lib.hid hF0
  have hq : (((l.length : Nat) : Int).tdiv 4) = (n : Int) := by rw [Int.tdiv_eq_ediv_of_nonneg (by omega), hn]; omega
  have hnn : (n : Int) ≤ 100 := by omega
  have hL4 : ¬ (400 : Int) < ((l.length : Nat) : Int) := by omega
  rw [← hn] at hp1
  have hp1' : ¬ (n : Int) + 1 < g.pc := by omega
  have hp0' : ¬ g.pc < 0 := by omega
  have hm' : ¬ 300 < most := by omega
  have e1 : wrap64 ((n : Int) + 1) = (n : Int) + 1 := IntWalk.wrap64_in _ (by omega)
  have hk0 := Blk.new w 30 g.arr
  obtain ⟨W, hW⟩ : ∃ W, W = w.alloc (.cells g.arr 30) := ⟨_, rfl⟩
  rw [← hW] at hk0
  have hbl : Below w.heap.size w W := by rw [hW]; exact (Below.refl _ _).alloc (Nat.le_refl _) _
  have c8 := (hk0.cell 8).trans h8
  have hSH : Hid (∃ g, StayAt w W n g) := Lib.hid ⟨g, hk0, hg, hbl⟩
  clear hV hc hc2 hl hg hn hF0 hk0 h8 hbl
  generalize l.length = L at *
  unfold Gr.val
  generalize g.arr = GA at *
  generalize g.pc = pc at *
  go_enter Try.func4, Try.ntmps4
  go_upto_region 1 with (fail)
  rw [← hW]
  clear hW
  go_upto_region 4 with (fail)
  clear c8 hL4 hp0' hp1' hp0 hp1 hm' hq
  go_wp2
  go_loopw [8] (fun v wr => ∃ i : Nat, v = .int .i64 i ∧ Hid ((i : Int) ≤ most ∨ i = 0) ∧ Hid (∃ g, StayAt w wr n g)) (fun v _ => (most - intOf v).toNat)
  case atStart => exact ⟨0, rfl, Lib.hid (.inr rfl), hSH⟩
  case round =>
    obtain ⟨i, rfl, hi, hI⟩ := hrel
    by_cases him : (i : Int) < most
    · obtain ⟨g', hS⟩ := hI.out
      obtain ⟨A, A1, CA, W0, p, p1, hA, s0, s1, sC, o1, oC, a8, p10, p11, w0, w1, hW3, hneq, hgood, hD⟩ := hF.out g' hS.go
      have hbg := hS.bg
      rw [hA] at hbg
      have hwA : Whole 30 A.size := by rw [s0]; exact whole30
      have hw1 : Whole 30 A1.size := by rw [s1]; exact whole30
      have hwC : Whole 36 CA.size := by rw [sC]; exact whole36
      have hf1 : zG.size = A1.size := s1.symm
      have hfC : zC.size = CA.size := sC.symm
      have hfA : A.size = A1.size := by rw [s0, s1]
      have e2 : wrap64 ((i : Int) + 1) = (i : Int) + 1 := IntWalk.wrap64_in _ (by omega)
      have hbl := hS.bl
      have hDH := Lib.hid (hD _ (hVH.out.below hbl))
      have hW3H := Lib.hid hW3
      have hgoodH := Lib.hid hgood
      clear hD hW3 hS hgood
      go_upto_region 8 with (first
        | (refine wpList_load_blk hbg hwA rfl _ rfl rfl ?_)
        | (go_at_call 9; refine hDH.out.mono ?_; rintro e w3 ⟨rfl, hb3⟩)
        | (refine wpList_store_blk (two_g w3) hw1 hf1 o1 rfl _ _ rfl rfl rfl ?_; intro w4 hB4 hC4)
        | (refine wpList_store_blk ((two_c w3).chg hC4 (by simp)) hwC hfC oC rfl _ _ rfl rfl rfl ?_; intro w5 hB5 hC5))
      have hb5 := two_chgS hb3 hC4 hC5
      have hb6 := hbl.trans (hb5.mono hbl.size)
      have kx := hB4.chg hC5 (by simp)
      have kg := hbg.below hb5
      have d8 := (kx.cell 8).trans a8
      have hne : w3.heap.size ≠ w.heap.size := by have := hbg.lt; have := hb3.size; omega
      have n1 : ¬ p1 < 0 := by omega
      have n2 : ¬ (n : Int) + 1 < p1 := by omega
      have n3 : ¬ W0 < 1 := by omega
      have n4 : ¬ 4 < W0 := by omega
      clear hB4 hB5 hC4 hC5 hb3 hb5 hbg hbl s0 s1 sC oC hf1 hfC hwC a8 p10 p11 w0 w1
      generalize w3.heap.size = Dx at *
      go_upto_region 10 with (fail)
      clear n1 n2 n3 n4
      rcases hW3H.out with hw | ⟨rfl, rfl, hp⟩
      · have hw' : (W0 == 3) = false := by simpa using hw
        go_upto_region 12 with (fail)
        clear hw hw' d8 hneq
        go_wp2_with (first
          | (refine wpList_load_blk kx hw1 rfl _ rfl rfl ?_)
          | (refine wpList_store_blk kg hw1 hfA o1 rfl _ _ rfl rfl rfl ?_; intro w6 hB6 hC6; clear kx kg hw1 hfA o1 hwA))
        go_roundw
        case rel =>
          obtain ⟨g2, hg2, hgA⟩ := hgoodH.out
          exact ⟨i + 1, by simp, Lib.hid (.inl (by omega)), Lib.hid ⟨g2, by rw [hgA]; exact hB6, hg2, hb6.trans (hC6.below (by simp) hb6.size)⟩⟩
        case measure => simp [intOf]; omega
      · have hp' : ¬ p1 < (n : Int) := by omega
        go_upto_region 12 with (first
          | (refine wpList_load_blkG kx hwA (by rfl) _ rfl rfl ?_)
          | (refine wpList_load_blkG kg hwA (by rfl) _ rfl rfl ?_))
        clear hp' hneq d8
        go_wp2_with (first
          | (refine wpList_load_blk kx hwA rfl _ rfl rfl ?_)
          | (refine wpList_store_blk kg hwA hfA o1 rfl _ _ rfl rfl rfl ?_; intro w6 hB6 hC6; clear kx kg hfA o1 hwA))
        go_roundw
        case rel =>
          obtain ⟨g2, hg2, hgA⟩ := hgoodH.out
          exact ⟨i + 1, by simp, Lib.hid (.inl (by omega)), Lib.hid ⟨g2, by rw [hgA]; exact hB6, hg2, hb6.trans (hC6.below (by simp) hb6.size)⟩⟩
        case measure => simp [intOf]; omega
    · have hbl : Below w.heap.size w wr := let ⟨_, h⟩ := hI.out; h.bl
      go_wp2_with (go_at_call 8; refine (known_any _).mono ?_; rintro e w9 ⟨rfl, hb9⟩)
      go_ret
      exact ⟨rfl, hbl.trans (hb9.mono hbl.size)⟩
theorem stays_any (V : Value) (l : List UInt8) (g : Gr) (hg : g.fine) (most : Int) (hm0 : -9223372036854775808 ≤ most) (w : World) (hV : By w V l) :
    Calls Try.prog 4 #[V, g.val, .int .i64 most] w fun e w' => e = .returned (.bool true) ∧ Below w.heap.size w w' := by
  have hll : l.length ≤ maxLen := by obtain ⟨A, c, _, h1, h2⟩ := hV.val; omega
  by_cases h : 400 < l.length ∨ g.pc < 0 ∨ ((l.length / 4 : Nat) : Int) + 1 < g.pc ∨ 300 < most
  · exact stays_out V l g most h w hV hll
  · exact stays_in V l (by omega) g ⟨hg.r0, hg.r1, hg.c0, hg.c1, by omega, by omega⟩ most hm0 (by omega) w hV
end Go.Proofs
end
section
namespace Go.Proofs.Ytojpllmghfafjaa.stepStays
open Go.ChangeShapes Go.WideShapes Go.ChangeAt Go.RowKit
set_option linter.unusedVariables false

theorem own : ownKnob Try.prog.godebug = none := by kernel_rfl

set_option maxRecDepth 100000 in
theorem lifted (os : Os) (started : os.Started) (H : Type) (enc : TypeId × Value → H) :
    ReturnsInHanded {} Try.checked os 4 .any (Rows.stepStaysSpec.pre6 enc Try.prog Try.f4 Rows.stepStaysRow.domain false) (Rows.stepStaysSpec.post enc Try.prog Try.f4 false true false false) := by
  refine returnsInHanded_of_change (C := Try.checked) own started (by kernel_rfl) Try.func4
    (ChangeSpec.witness6 (enc := enc) (C := Try.checked) false ⟨#[], #[.slice none 0 0, .agg #[.int .i64 0, .bool false, .int .i64 0, .int .u64 0, .int .i64 0, .int .u64 0, .int .u8 0, .int .i64 0, .int .i64 0, .int .u64 0, .int .u64 0, .int .u64 0, .int .u64 0, .int .u64 0, .int .u64 0, .int .u64 0, .int .u64 0, .int .i64 0, .int .u64 0], .int .i64 0], []⟩ 8 (by kernel_rfl) (by kernel_rfl) (by kernel_rfl) (by kernel_rfl)) ?_
  intro W base args ds gs before hval0 hW hcnd _
  have hval : ∀ (j : Nat) t v, Try.f4.params[j]? = some t → args[j]? = some v → Value.okWide Try.prog W .any base t v := hval0
  have hW' := hW
  obtain ⟨p, q, hA0, hV, rfl, hfz, hnd⟩ := hW
  have hA : DataW.TrodAll enc Try.prog W 0 (fun _ => true) true Try.f4.params.toList args.toList ds p := hA0
  rw [Try.params4] at hA hval
  obtain ⟨v0, vs0, d0, ds0, p0, q0, hargs, rfl, rfl, h0, r0⟩ := trodAll_cons hA
  obtain ⟨v1, vs1, d1, ds1, p1, q1, rfl, rfl, rfl, h1, r1⟩ := trodAll_cons r0
  obtain ⟨v2, vs2, d2, ds2, p2, q2, rfl, rfl, rfl, h2, r2⟩ := trodAll_cons r1
  obtain ⟨rfl, rfl, rfl⟩ := trodAll_nil r2
  obtain rfl : args = #[v0, v1, v2] := by cases args; simp_all
  obtain ⟨rfl, rfl⟩ := trodVars_none hV
  obtain ⟨a2, rfl, rfl, rfl, w2⟩ := open_int Try.underlying3 (hval 2 3 v2 rfl rfl) h2
  clear hA0 hval0
  simp only [List.append_nil] at hW'
  have hlt0 : ∀ x ∈ p0, x.block < W.heap.size := fun x hx => hW'.lt x (by simp [hx])
  obtain ⟨l0, hl0⟩ := open_bytes (hval 0 22 v0 rfl rfl) h0
  have hlt1 : ∀ x ∈ p1, x.block < W.heap.size := fun x hx => hW'.lt x (by simp [hx])
  obtain ⟨g1, hg1, rfl⟩ := open_g (hval 1 30 v1 rfl rfl) h1
  obtain ⟨b2, c2⟩ := bounds_i64 w2
  refine (stays_any v0 l0 g1 hg1 a2 b2 W hl0).mono fun e W' ⟨he, hg⟩ => ?_
  subst he
  exact ⟨_, rfl, post_of_below (pa := (p0 ++ (p1 ++ ([] ++ [])))) (pv := []) hW' (fun _ _ _ => (trodAll_cons_mk (shut_bool Try.underlying4 _) trodAll_mk0)) (fun sp hsp => (trodAll_cons_mk (WideElems.Trod_stays Try.laidOut (by kernel_rfl) (of_decide_eq_true (by kernel_rfl)) h0 (fun x hx => hg.same (hlt0 x hx)) (fun x hx => hsp x (by simp [hx]))) (trodAll_cons_mk (WideElems.Trod_stays Try.laidOut (by kernel_rfl) (of_decide_eq_true (by kernel_rfl)) h1 (fun x hx => hg.same (hlt1 x hx)) (fun x hx => hsp x (by simp [hx]))) (trodAll_cons_mk (shut_int Try.underlying3 w2) trodAll_mk0)))) (fun _ _ => rfl) (by simp)
    hg (ok_one (by kernel_rfl) rfl (okWide_bool_mk Try.underlying4 _))⟩

theorem over : Rows.stepStaysRow.holds Try.pinned (OpenSpec.ofChange Rows.stepStaysSpec) :=
  OpenClaim.holds_of_wide 4 Try.f4 rfl rfl rfl rfl rfl rfl rfl ⟨rfl, rfl, rfl, rfl, rfl⟩ rfl rfl rfl rfl rfl (by kernel_rfl) Try.func4 (by kernel_rfl)
    (of_decide_eq_true (by kernel_rfl)) (by unfold Func.isWrapper; first | (rw [if_pos (by decide +kernel)]; kernel_rfl) | (rw [if_neg (by decide +kernel)]; exact ⟨rfl, rfl⟩))
    (fun os started H enc _ => lifted os started H enc)

/-- ████ THE STATEMENT ████ -/
theorem proved : Rows.StepStaysSaid :=
  over
#print axioms proved
end Go.Proofs.Ytojpllmghfafjaa.stepStays
end
