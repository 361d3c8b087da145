import Derived.Test.YtgdjagbkpdndgaaGaS
import Derived.Test.YtgdjagbkpdndgaaGaQ
namespace Go.Proofs
open Go.RowKit
set_option linter.unusedVariables false

/-! ### The code's queue, and the document's -/
theorem RefAt.apart {w : World} {q r : Nat} {N : List (Nat × Int)} {S : List Nat} {L : List Int} (HR : RefAt w r S L) (H : QAt w q N) : ∀ k ∈ S, k ∉ q :: bl N := by
  obtain ⟨V, h1, h2, rfl⟩ := HR
  intro k hk
  rcases List.mem_cons.1 hk with rfl | hk
  · intro hm
    rcases List.mem_cons.1 hm with e | hm
    · exact Blk.ty h1 H.queue (by decide) e
    · obtain ⟨p, hp, e⟩ := List.mem_map.1 hm
      obtain ⟨i, hi⟩ := List.mem_iff_getElem?.1 hp
      exact Blk.ty (H.node i p.1 p.2 hi) h1 (by decide) e
  · exact H.apart h2 k hk
theorem RefAt.rest {w w1 : World} {q r : Nat} {N : List (Nat × Int)} {S : List Nat} {L : List Int} (HR : RefAt w r S L) (H : QAt w q N) (hc : Chg (q :: bl N) w w1) : RefAt w1 r S L := HR.chg hc (HR.apart H)
theorem QAt.not_ref {w : World} {q r : Nat} {N : List (Nat × Int)} {V : Array Value} (H : QAt w q N) (h : Blk w r 30 V) : r ∉ q :: bl N := by
  intro hm
  rcases List.mem_cons.1 hm with e | hm
  · exact Blk.ty h H.queue (by decide) e
  · obtain ⟨p, hp, e⟩ := List.mem_map.1 hm
    obtain ⟨i, hi⟩ := List.mem_iff_getElem?.1 hp
    exact Blk.ty (H.node i p.1 p.2 hi) h (by decide) e
/-- Both have L' now. -/
def Does (q r : Nat) (N : List (Nat × Int)) (L' : List Int) (w w' : World) : Prop :=
  ∃ N' S', QAt w' q N' ∧ nu N' = L' ∧ RefAt w' r S' L' ∧ (∀ k ∈ bl N', k ∈ bl N ∨ w.heap.size ≤ k) ∧ Chg (r :: q :: bl N) w w'
def DoPost (q r : Nat) (N : List (Nat × Int)) (w : World) (e : Ending) (w' : World) : Prop :=
  e = .returned (.bool true) ∧ ∃ L', Does q r N L' w w' ∧ L'.length ≤ (nu N).length + 50
section
variable {w wa wb w1 w2 w3 w4 : World} {q r : Nat} {N : List (Nat × Int)} {S : List Nat} {L' : List Int}
theorem Does.stay (H : QAt w q N) (HR : RefAt w r S (nu N)) (hc : Chg [] w w1) : Does q r N (nu N) w w1 := ⟨N, S, H.quiet hc, rfl, HR.quiet hc, fun k hk => .inl hk, hc.any⟩
/-- A call on the queue, then one on the document's. -/
theorem Does.step (H : QAt w q N) (HR : RefAt w r S (nu N)) (ha : Chg [] w wa) (hT : Turns q N L' wa w1) (hb : Chg [] w1 wb) (hU : RTurns r S L' wb w2) (hc : Chg [] w2 w3) : Does q r N L' w w3 := by
  obtain ⟨N', t1, t2, t3, t4⟩ := hT
  obtain ⟨S', u1, u2, u3⟩ := hU
  have z := ha.size
  have hq := t1.quiet hb
  obtain ⟨V0, g1, _⟩ := (((HR.quiet ha).rest (H.quiet ha) t4).quiet hb)
  have hr := hq.not_ref g1
  refine ⟨N', S', (hq.chg u3 (fun k hk he => ?_)).quiet hc, t2, u1.quiet hc, fun k hk => (t3 k hk).imp id (fun h => by omega), ?_⟩
  · simp at he; subst he; exact hr hk
  · exact ((((Chg.any ha).trans t4 (fun k hk => .inl (List.mem_cons_of_mem _ hk))).then hb).trans u3 (fun k hk => .inl (by simp at hk; simp [hk]))).then hc
/-- The numbers that come in are put at both. -/
theorem Does.put {V own : Value} {l : List Int} (H : QAt w q N) (HR : RefAt w r S (nu N)) (hown : Fresh w w1 own l) (hT : Turns q N (nu N ++ l) w1 w2) (hU : RTurns r S (nu N ++ l) w2 w3) (hs : Chg (foot own) w3 w4) : Does q r N (nu N ++ l) w w4 := by
  obtain ⟨N', t1, t2, t3, t4⟩ := id hT
  obtain ⟨S', u1, u2, u3⟩ := id hU
  have z1 := hown.2.2.size
  have z2 := t4.size
  have hlt := HR.lt
  have hol := hown.1.lt
  obtain ⟨V0, g1, _⟩ := ((HR.quiet hown.2.2).rest (H.quiet hown.2.2) t4)
  have hr := t1.not_ref g1
  have hq3 : QAt w3 q N' := t1.chg u3 (fun k hk he => by simp at he; subst he; exact hr hk)
  have hrow3 : Row w3 3 1 own l.length (ints l) := (hown.1.chg t4 (fun k hk => (H.quiet hown.2.2).apart (Rd.of_row hown.1) k hk)).chg u3 (fun k hk he => by
    simp at he
    subst he
    exact (hown.1.chg t4 (fun k hk => (H.quiet hown.2.2).apart (Rd.of_row hown.1) k hk)).ty g1 (by decide) hk)
  refine ⟨N', S', hq3.chg hs (fun k hk hm => hq3.apart (Rd.of_row hrow3) k hm hk), t2, u1.chg hs (fun k hk hm => ?_), fun k hk => (t3 k hk).imp id (fun h => by omega), ?_⟩
  · have h1 := hown.2.1 k hm
    have h2 := hol k hm
    rcases u2 k hk with h9 | h9
    · have := hlt k h9; omega
    · omega
  · exact (((Chg.any hown.2.2).trans t4 (fun k hk => .inl (List.mem_cons_of_mem _ hk))).trans u3 (fun k hk => .inl (by simp at hk; simp [hk]))).trans hs (fun k hk => .inr (hown.2.1 k hk))
theorem scr_chg {w0 wr : World} {v : Value} {m : Nat} (h : Scr w0 wr v m) : Chg (foot v) w0 wr := by
  obtain ⟨vs, _, _, hc⟩ := h
  exact hc
set_option maxRecDepth 100000 in
set_option maxHeartbeats 6400000 in
theorem do1 (H : QAt w q N) (HR : RefAt w r S (nu N)) (hN : N.length ≤ 8000) (g p : Int) {VL : Value} {l : List Int} (hV : Is w VL l) (hl : l.length ≤ 50) (hf : l = [] ∨ ∀ k ∈ foot VL, k ∉ q :: bl N) (A : Option Addr) (an ac : Nat) :
    Calls Try.prog 11 #[.pointer (some ⟨q, 0, none⟩), .pointer (some ⟨r, 0, none⟩), .agg #[.int .i64 1, VL, .int .i64 g, .int .i64 p, .slice A an ac]] w (DoPost q r N w) := by
  unfold DoPost
  obtain ⟨A1, c1, rfl, _⟩ := id hV
  have hNl := nu_len N
  have hq := fun W (hW : Chg [] w W) v (hv : Rd W v l) => put_any (H.quiet hW) hv (by omega)
  have hrp := fun W1 (h1 : Chg [] w W1) W2 (h2 : Chg (q :: bl N) W1 W2) => rput_any (((HR.quiet h1).rest (H.quiet h1) h2)) ((hV.quiet h1).chg h2 hf) (by omega)
  obtain ⟨n, hn⟩ : ∃ n, n = l.length := ⟨_, rfl⟩
  rw [← hn] at hV hl hrp ⊢
  have HN := Lib.hid hn
  have HH := Lib.hid H
  have HHR := Lib.hid HR
  have HV := Lib.hid hV
  have HLT := Lib.hid H.lt
  have HNL := Lib.hid hNl
  clear H HR hV hf hn hNl hN
  go_enter Try.func11, Try.ntmps11
  go_wp2_with (first
    | (at_builtin; refine wpList_append_is (xs := []) (l := l) (n := n) _ rfl _ _ rfl rfl rfl (Row.nil _ _ _) (HV.out.quiet ((Chg.refl _ _).alloc _)) (by rw [← HN.out]; simp; omega) (by rw [← HN.out]; simp) ?_; intro A3 c3 w1 hr1 hg1 hf1; have hfr := Fresh.append (w := w.alloc (.cells #[.int .i64 1, .slice A1 n c1, .int .i64 g, .int .i64 p, .slice A an ac] 34)) (xs := []) (l := l) (Fresh.nil (Chg.refl _ _)) hr1 hg1 hf1; simp only [List.nil_append] at hfr; have hfr2 := hfr.before ((Chg.refl [] w).alloc (.cells #[.int .i64 1, .slice A1 n c1, .int .i64 g, .int .i64 p, .slice A an ac] 34)); have bx := (Blk.new w 34 #[.int .i64 1, .slice A1 n c1, .int .i64 g, .int .i64 p, .slice A an ac]).chg hfr.2.2 (by simp); have HBX := Lib.hid bx; have HF := Lib.hid hfr2; have k1 := bx.cell 1; simp only [List.getElem?_toArray, List.getElem?_cons_succ, List.getElem?_cons_zero] at k1; clear hr1 hg1 hf1 hfr hfr2 bx)
    | (go_at_call 22; refine (hq _ HF.out.2.2 _ HF.out.rd).mono ?_; rintro e w2 ⟨rfl, hT⟩; have hc := hT.choose_spec.2.2.2; have bx := HBX.out.chg hc (fun hm => by have := HLT.out _ hm; omega); have k2 := bx.cell 1; simp only [List.getElem?_toArray, List.getElem?_cons_succ, List.getElem?_cons_zero] at k2; have HT := Lib.hid hT; have HC := Lib.hid hc; clear hT hc bx)
    | (go_at_call 25; refine (hrp _ HF.out.2.2 _ HC.out).mono ?_; rintro e w3 ⟨rfl, hU⟩; have HU := Lib.hid hU; clear hU))
  have hrow : Row w3 3 1 (.slice A3 n c3) l.length (ints l) := by
    obtain ⟨N', t1, t2, t3, t4⟩ := id HT.out
    obtain ⟨S', u1, u2, u3⟩ := id HU.out
    obtain ⟨V0, g1, _⟩ := ((HHR.out.quiet HF.out.2.2).rest (HH.out.quiet HF.out.2.2) t4)
    have h2 := HF.out.1.chg t4 (fun k hk => (HH.out.quiet HF.out.2.2).apart (Rd.of_row HF.out.1) k hk)
    exact h2.chg u3 (fun k hk he => by simp at he; subst he; exact h2.ty g1 (by decide) hk)
  have hscr := Scr.start hrow
  rw [← HN.out] at hscr
  have HS := Lib.hid hscr
  clear hrow hscr k1 k2
  go_loopw [8] (fun i wr => ∃ k : Nat, k ≤ n ∧ i = .int .i64 k ∧ Hid (Scr w3 wr (.slice A3 n c3) n)) (fun i _ => n - (intOf i).toNat)
  case atStart => exact ⟨0, Nat.zero_le _, rfl, HS⟩
  case round =>
    obtain ⟨k, hk, rfl, hs⟩ := hrel
    by_cases hlt : k < n
    · obtain ⟨gg, cap, x, hv, q0, q1⟩ := hs.out.form hlt
      simp only [Value.slice.injEq] at hv
      obtain ⟨rfl, _, rfl⟩ := hv
      have HNx := Lib.hid (fun y => hs.out.step hlt y)
      have i0 : (0 : Int) ≤ (k : Int) := by omega
      have i1 : (k : Int) < (n : Int) := by omega
      clear hs
      go_wp2
      go_roundw
      case rel => exact ⟨k + 1, by omega, by go_num, Lib.hid (HNx.out _)⟩
      case measure => simp [intOf]; omega
    · obtain rfl : k = n := by omega
      go_wp2
      go_ret
      exact ⟨rfl, _, Does.put (V := .slice A1 k c1) HH.out HHR.out HF.out HT.out HU.out (scr_chg hs.out), by rw [List.length_append, ← HN.out]; omega⟩
end
end Go.Proofs
