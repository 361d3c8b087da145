import Derived.Test.YtgelpbmjgebnhaaM3
import Derived.RangeFuncNested
import Derived.RangeFuncBound
import Derived.RangeFuncCalls
import Derived.RangeFuncLeaves
import Derived.RangeFuncFrom
import Derived.RangeFuncBox
import Derived.Shelf.Abstract
import Derived.Shelf.RegionOpen
import Derived.OwnWalkIn
import Derived.TacticsInMore
import Derived.LoopNIn
import Derived.LoopIn
import Derived.Sort.QuietIn
import Derived.Stop.RegionWithIn
import Derived.Maps.AppendAt
import Derived.Laws.EntriesVeiled
import Derived.Sort.QuietThIn
import Derived.Sort.BigQuietIn
import Derived.Sort.LoopGhostIn
import Derived.Deep.RegionHeld3
import Derived.BigRegion
import Derived.IntWalk
section
/-! A range over a function whose rounds, and whose iterator, both turn memory: what the caller holds is said with the blocks that it speaks of. -/
namespace Go
open Go.RowKit
set_option linter.unusedVariables false

/-- M's blocks lie as they lay; the streams are as they were. -/
structure KeepM (M : Nat → Prop) (A B : World) : Prop where
  os : B.os = A.os
  tape : B.tape = A.tape
  output : B.output = A.output
  size : A.heap.size ≤ B.heap.size
  block : ∀ k, M k → B.heap[k]? = A.heap[k]?
section
variable {M M' : Nat → Prop} {A B C : World}
theorem KeepM.refl (M : Nat → Prop) (A : World) : KeepM M A A := ⟨rfl, rfl, rfl, Nat.le_refl _, fun _ _ => rfl⟩
theorem KeepM.trans (h : KeepM M A B) (k : KeepM M B C) : KeepM M A C := ⟨k.os.trans h.os, k.tape.trans h.tape, k.output.trans h.output, Nat.le_trans h.size k.size, fun i hi => (k.block i hi).trans (h.block i hi)⟩
theorem KeepM.less (h : KeepM M A B) (hs : ∀ k, M' k → M k) : KeepM M' A B := ⟨h.os, h.tape, h.output, h.size, fun k hk => h.block k (hs k hk)⟩
theorem KeepM.cell (h : KeepM M A B) {p : Addr} (hp : M p.block) : B.cell? p = A.cell? p := World.cell?_of_block (h.block p.block hp)
theorem KeepM.frozen (h : KeepM M A B) {p : Addr} (hp : M p.block) : B.frozen? p = A.frozen? p := by unfold World.frozen?; rw [h.block p.block hp]
theorem KeepM.alloc (A : World) (o : Obj) : KeepM (fun k => k < A.heap.size) A (A.alloc o) := ⟨rfl, rfl, rfl, by simp, fun k hk => Below.heap_alloc _ _ _ hk⟩
theorem KeepM.putObj (A : World) (b : Nat) (o : Obj) : KeepM (fun k => k ≠ b) A (A.putObj b o) := ⟨rfl, rfl, rfl, by simp [World.putObj], fun k hk => World.putObj_heap_other hk⟩
theorem KeepM.drew (A : World) : KeepM M A A.drew := ⟨rfl, rfl, rfl, Nat.le_refl _, fun _ _ => rfl⟩
theorem KeepM.setCell (A : World) (p : Addr) (u : Value) : KeepM (fun k => k ≠ p.block) A (A.setCell p u) := ⟨rfl, rfl, rfl, by simp [World.setCell], fun k hk => Below.heap_setCell _ _ _ _ hk⟩
theorem KeepM.of_chg {S : List Nat} (h : Go.Proofs.Chg S A B) (hM : ∀ k, M k → k < A.heap.size ∧ k ∉ S) : KeepM M A B := ⟨h.os, h.tape, h.output, h.size, fun k hk => h.block k (hM k hk).1 (hM k hk).2⟩
end
/-- What is said of some blocks holds on where these lie as they lay. -/
def FootP {β : Type} (J : β → (Nat → Prop) → World → Prop) : Prop := ∀ s M A B, J s M A → KeepM M A B → J s M B
def LowP {β : Type} (J : β → (Nat → Prop) → World → Prop) : Prop := ∀ s M A, J s M A → ∀ k, M k → k < A.heap.size

section
variable {F : Fence} {n : Nat} {P : Program} {α : Type}
/-- What an iterator does whose caller holds what it says of its own blocks. -/
def SeqFoot (F : Fence) (n : Nat) (P : Program) (g : Nat) (lb : Array Value) (encs : α → Array Value) (Kp : World → World → Prop) (T : List α → α → Prop) (S Sp : List α → Prop) (N m : Nat) (w : World) : Prop :=
  ∀ (l : Nat) (J Jx : List α → (Nat → Prop) → World → Prop) (M0 : Nat → Prop) (W : World), Kp w W → FootP J → LowP J →
    (∀ pre M x W1, J pre M W1 → T pre x → pre.length < N →
      YieldAt F m P l (encs x) W1 fun e W' => ∃ M' : Nat → Prop, (∀ k, M' k → M k ∨ W1.heap.size ≤ k) ∧ KeepM (fun k => ¬ M k ∧ k < W1.heap.size) W1 W' ∧
        ((e = .returned (.bool true) ∧ J (pre ++ [x]) M' W' ∧ Kp W1 W') ∨ (e = .returned (.bool false) ∧ Jx (pre ++ [x]) M' W'))) →
    FootP Jx → J [] M0 W → CallsIn F n P g (#[.func (.yield l) #[] #[]] ++ lb) W fun e W' => (∃ v, e = .returned v) ∧ ∃ M' : Nat → Prop, (∀ k, M' k → M0 k ∨ W.heap.size ≤ k) ∧ ((∃ xs, S xs ∧ J xs M' W') ∨ ∃ pre, Sp pre ∧ Jx pre M' W')
/-- The two blocks of the statement's own: its record, and where the rounds' deferred calls would stand. -/
def Own2 (b : Nat) (r : Loop) (W : World) : Prop := W.heap[b + 1]? = some (.loop r) ∧ W.heap[b]? = some (.deferred (some []))
section
variable {b : Nat} {r : Loop} {A B : World}
theorem Own2.lt (h : Own2 b r A) : b + 1 < A.heap.size := (Array.getElem?_eq_some_iff.1 h.1).1
theorem Own2.kept {M : Nat → Prop} (h : Own2 b r A) (hk : KeepM M A B) (h0 : M b) (h1 : M (b + 1)) : Own2 b r B := ⟨(hk.block _ h1).trans h.1, (hk.block _ h0).trans h.2⟩
theorem Own2.turn (h : Own2 b r A) (r' : Loop) : Own2 b r' (A.putObj (b + 1) (.loop r')) := ⟨World.putObj_heap_same h.lt, (World.putObj_heap_other (by omega)).trans h.2⟩
theorem Own2.lay (w : World) (r : Loop) : Own2 w.heap.size r ((w.alloc (.deferred (some []))).alloc (.loop r)) := by
  have h := World.alloc_heap_new (w.alloc (.deferred (some []))) (.loop r)
  rw [World.size_alloc] at h
  exact ⟨h, (Below.heap_alloc _ _ _ (by simp)).trans (World.alloc_heap_new w _)⟩
/-- The round's end. -/
theorem Own2.ends (h : Own2 b r A) (jump : Option Code) : (Instr.endRound (b + 1) jump).run P A = .ok (.bool jump.isNone) (A.putObj (b + 1) (.loop { r with state := if jump.isNone then .ready else .done, pending := jump })) :=
  run_endRound jump h.1
end
/-- What a round's body leaves. -/
def footPost (Kp : World → World → Prop) (I : List α → (Nat → Prop) → World → Prop) (Ix : Code → List α → (Nat → Prop) → World → Prop) (M : Nat → Prop) (xs : List α) (W : World) : Exit → Act → World → Prop
  | .normal, _, W' => Kp W W' ∧ ∃ M' : Nat → Prop, (∀ k, M' k → M k ∨ W.heap.size ≤ k) ∧ KeepM (fun k => ¬ M k ∧ k < W.heap.size) W W' ∧ I xs M' W'
  | .ret, _, W' => ∃ M' : Nat → Prop, (∀ k, M' k → M k ∨ W.heap.size ≤ k) ∧ KeepM (fun k => ¬ M k ∧ k < W.heap.size) W W' ∧ Ix .ret xs M' W'
  | .exit id, _, W' => ∃ M' : Nat → Prop, (∀ k, M' k → M k ∨ W.heap.size ≤ k) ∧ KeepM (fun k => ¬ M k ∧ k < W.heap.size) W W' ∧ Ix (.exit id) xs M' W'
  | .goto t, _, W' => ∃ M' : Nat → Prop, (∀ k, M' k → M k ∨ W.heap.size ≤ k) ∧ KeepM (fun k => ¬ M k ∧ k < W.heap.size) W W' ∧ Ix (.goto t) xs M' W'
  | .panic _, _, _ => False
  | .outgrown, _, _ => False
/-- A caller's word, with the statement's own two blocks beside it. -/
def With2 (b : Nat) (r : Loop) (I : (Nat → Prop) → World → Prop) (M : Nat → Prop) (W : World) : Prop :=
  ∃ M1 : Nat → Prop, I M1 W ∧ Own2 b r W ∧ ¬ M1 b ∧ ¬ M1 (b + 1) ∧ ∀ k, M k ↔ (M1 k ∨ k = b ∨ k = b + 1)
theorem With2.turn {b : Nat} {r r' : Loop} {I : List α → (Nat → Prop) → World → Prop} {s : List α} {M : Nat → Prop} {W : World} (hI : FootP I) (h : With2 b r (I s) M W) : With2 b r' (I s) M (W.putObj (b + 1) (.loop r')) := by
  obtain ⟨M1, h1, h2, h3, h4, h5⟩ := h
  exact ⟨M1, hI _ _ _ _ h1 ((KeepM.putObj W (b + 1) _).less (fun k hk e => h4 (e ▸ hk))), h2.turn r', h3, h4, h5⟩
theorem wpIn_rangeFunc_foot {g : Operand} {ps : Array Tmp} {assign body : Code} {Q : Exit → Act → World → Prop} {a : Act} {w : World}
    (hro : F.round = none) (h1 : 1 ≤ n) {gf : Nat} {lb : Array Value} (hg : a.eval g = .func (.func gf) #[] lb) (hFg : F.fn gf) (eg : ∀ args w, (callFunc gf args).run P w = .ok (.enter gf args) w)
    {encs : α → Array Value} {Kp : World → World → Prop} {T : List α → α → Prop} {S Sp : List α → Prop} {N m : Nat} {w0 : World} (hseq : SeqFoot F (n - 1) P gf lb encs Kp T S Sp N m w0)
    (hKt : ∀ {A B C : World}, Kp A B → Kp B C → Kp A C) (hKa : ∀ (W : World) (o : Obj), w.heap.size ≤ W.heap.size → Kp W (W.alloc o)) (hKb : ∀ (W : World) (o o' : Obj), W.heap[w.heap.size + 1]? = some o → o.isCells = false → Kp W (W.putObj (w.heap.size + 1) o')) (hb0 : Kp w0 w) (hps : ∀ x, (encs x).size = ps.size)
    (I : List α → (Nat → Prop) → World → Prop) (Ix : Code → List α → (Nat → Prop) → World → Prop) (hI : FootP I) (hIl : LowP I) (hIx : ∀ c, FootP (Ix c)) {M0 : Nat → Prop} (h0 : I [] M0 w) (Ax : α → Act → World → Prop) (hAx : ∀ x a' W o o', Ax x a' W → W.heap[w.heap.size + 1]? = some o → o.isCells = false → Ax x a' (W.putObj (w.heap.size + 1) o'))
    (hassign : ∀ (l : Nat) (pre : List α) (x : α) (M : Nat → Prop) (W : World) (K : Act → World → Prop), I pre M W → T pre x → (∀ a' W', KeepM (fun k => k < W.heap.size) W W' → Kp W W' → Ax x a' W' → K a' W') →
      assign.wpIn (F.inRound l) m P (Exit.then K (fun _ _ _ => False)) { tmps := (ps.zip (encs x)).foldl (fun t (p, v) => t.setIfInBounds p v) a.tmps, defers := [] } W)
    (hbody : ∀ (l : Nat) (pre : List α) (x : α) (a' : Act) (M : Nat → Prop) (W : World), I pre M W → T pre x → Ax x a' W → pre.length < N → (∀ k, M k → k < w.heap.size ∨ w.heap.size + 2 ≤ k) → body.wpIn (F.inRound l) m P (footPost Kp I Ix M (pre ++ [x]) W) a' W)
    (hdone : ∀ (D : Nat) (xs : List α) (M : Nat → Prop) (W : World), w.heap.size ≤ D → ¬ M D → (∀ k, M k → M0 k ∨ w.heap.size ≤ k) → S xs → I xs M W → W.heap[D]? = some (.deferred (some [])) → Q .normal { a with defers := { target := .collected D, args := #[] } :: a.defers } W)
    (hstop : ∀ (D : Nat) (c : Code) (pre : List α) (M : Nat → Prop) (W : World), w.heap.size ≤ D → ¬ M D → (∀ k, M k → M0 k ∨ w.heap.size ≤ k) → Sp pre → Ix c pre M W → W.heap[D]? = some (.deferred (some [])) → c.wpIn F n P Q { a with defers := { target := .collected D, args := #[] } :: a.defers } W) :
    (Code.rangeFunc g ps assign body).wpIn F n P Q a w := by
  refine wpIn_rangeFunc fun fn hfn => ?_
  rw [hro]
  let r0 : Loop := { state := .ready, pending := none, fn, tmps := a.tmps, params := ps, assign, body, defers := w.heap.size }
  let W1 := (w.alloc (.deferred (some []))).alloc (.loop r0)
  have hz1 : W1.heap.size = w.heap.size + 2 := by simp [W1]
  have hk1 : KeepM (fun k => k < w.heap.size) w W1 := (KeepM.alloc w _).trans ((KeepM.alloc _ _).less (fun k hk => by simp; omega))
  have hl0 := hIl _ _ _ h0
  have hI1 : I [] M0 W1 := hI _ _ _ _ h0 (hk1.less hl0)
  have hb1 : Kp w0 W1 := hKt hb0 (hKt (hKa _ _ (Nat.le_refl _)) (hKa _ _ (by simp)))
  have hJ0 : With2 w.heap.size r0 (I []) (fun k => M0 k ∨ k = w.heap.size ∨ k = w.heap.size + 1) W1 := ⟨M0, hI1, Own2.lay w r0, fun h => by have := hl0 _ h; omega, fun h => by have := hl0 _ h; omega, fun k => Iff.rfl⟩
  refine ⟨w.heap.size + 1, [{ target := .collected w.heap.size, args := #[] }], W1, { target := .fn (.func gf) lb, args := #[.func (.yield (w.heap.size + 1)) #[] #[]] }, W1, gf,
    #[.func (.yield (w.heap.size + 1)) #[] #[]] ++ lb, W1, run_enterLoop_outer _ _ _ _ _, ?_, ?_, ?_, fun _ => h1, ?_⟩
  · simp only [resolve, hg]
    simp [go_sem]
  · intro f' hf'
    simp [Target.leads] at hf'
    subst hf'; exact hFg
  · simp [invoke, go_sem, eg]
  have hfp : ∀ (r : Loop) (I' : List α → (Nat → Prop) → World → Prop), FootP I' → FootP (fun pre M W => With2 w.heap.size r (I' pre) M W) := fun r I' hI' s M A B hs hk => by
    obtain ⟨M1, e1, e2, e3, e4, e5⟩ := hs
    exact ⟨M1, hI' _ _ _ _ e1 (hk.less fun k hk => (e5 k).2 (.inl hk)), e2.kept hk ((e5 _).2 (.inr (.inl rfl))) ((e5 _).2 (.inr (.inr rfl))), e3, e4, e5⟩
  refine (hseq (w.heap.size + 1) (fun pre M W => With2 w.heap.size r0 (I pre) M W ∧ ∀ k, M k → M0 k ∨ w.heap.size ≤ k) (fun pre M W => ∃ c, With2 w.heap.size { r0 with state := .done, pending := some c } (Ix c pre) M W ∧ ∀ k, M k → M0 k ∨ w.heap.size ≤ k) (fun k => M0 k ∨ k = w.heap.size ∨ k = w.heap.size + 1) W1 hb1
    (fun s M A B hs hk => ⟨hfp r0 I hI s M A B hs.1 hk, hs.2⟩)
    (fun s M A hs k hk => by
      obtain ⟨⟨M1, e1, e2, e3, e4, e5⟩, _⟩ := hs
      have := e2.lt
      rcases (e5 k).1 hk with h | h | h
      · exact hIl _ _ _ e1 k h
      · omega
      · omega) ?_
    (fun s M A B hs hk => by
      obtain ⟨c, hc, h2⟩ := hs
      exact ⟨c, hfp _ (Ix c) (hIx c) s M A B hc hk, h2⟩) ⟨hJ0, fun k hk => hk.elim .inl (fun h => .inr (by omega))⟩).mono ?_
  · -- a round
    rintro pre M x W ⟨⟨M1, hi, hl, hm0, hm1, hM⟩, hMM⟩ hT hlen
    have hlM : w.heap.size + 1 < W.heap.size := hl.lt
    have hi1 := hIl _ _ _ hi
    refine ⟨fn, _, assign, body, run_yield hl.1 (hps x), roundIn_of_wpIn hfn (hassign _ pre x M1 W _ hi hT fun a' Wa hka hpa hax => ?_)⟩
    have hla : Own2 w.heap.size r0 Wa := hl.kept hka (by omega) hlM
    refine ⟨_, run_beginRound hla.1 rfl, ?_⟩
    have hia : I pre M1 Wa := hI _ _ _ _ hi (hka.less hi1)
    have hlb := hla.turn { r0 with state := .busy }
    have hib : I pre M1 (Wa.putObj (w.heap.size + 1) (.loop { r0 with state := .busy })) := hI _ _ _ _ hia ((KeepM.putObj _ _ _).less (fun k hk e => hm1 (e ▸ hk)))
    have hpb : Kp Wa (Wa.putObj (w.heap.size + 1) (.loop { r0 with state := .busy })) := hKb _ _ _ hla.1 rfl
    have hsz : (Wa.putObj (w.heap.size + 1) (.loop { r0 with state := .busy })).heap.size = Wa.heap.size := by simp [World.putObj]
    have hMx : ∀ k, M1 k → k < w.heap.size ∨ w.heap.size + 2 ≤ k := fun k hk => by
      rcases Nat.lt_trichotomy k w.heap.size with h | h | h
      · exact .inl h
      · subst h; exact absurd hk hm0
      · right
        rcases Nat.lt_or_ge k (w.heap.size + 2) with h' | h'
        · have e : k = w.heap.size + 1 := by omega
          subst e; exact absurd hk hm1
        · exact h'
    refine wpIn_mono (hbody _ pre x a' M1 _ hib hT (hAx _ _ _ _ _ hax hla.1 rfl) hlen hMx) ?_
    have hbeg : KeepM (fun k => ¬ M k ∧ k < W.heap.size) W (Wa.putObj (w.heap.size + 1) (.loop { r0 with state := .busy })) :=
      (hka.less (fun k hk => hk.2)).trans ((KeepM.putObj _ _ _).less (fun k hk e => hk.1 ((hM k).2 (.inr (.inr e)))))
    -- what the body leaves, with the record turned behind it
    have fin : ∀ (M' : Nat → Prop) (W3 : World) (J : (Nat → Prop) → World → Prop) (r' : Loop), (∀ M A B, J M A → KeepM M A B → J M B) → (∀ k, M' k → M1 k ∨ (Wa.putObj (w.heap.size + 1) (.loop { r0 with state := .busy })).heap.size ≤ k) →
        KeepM (fun k => ¬ M1 k ∧ k < (Wa.putObj (w.heap.size + 1) (.loop { r0 with state := .busy })).heap.size) (Wa.putObj (w.heap.size + 1) (.loop { r0 with state := .busy })) W3 → J M' W3 →
        Own2 w.heap.size { r0 with state := .busy } W3 ∧ (∀ k, (M' k ∨ k = w.heap.size ∨ k = w.heap.size + 1) → M k ∨ W.heap.size ≤ k) ∧ KeepM (fun k => ¬ M k ∧ k < W.heap.size) W (W3.putObj (w.heap.size + 1) (.loop r')) ∧
          With2 w.heap.size r' J (fun k => M' k ∨ k = w.heap.size ∨ k = w.heap.size + 1) (W3.putObj (w.heap.size + 1) (.loop r')) ∧ (∀ k, (M' k ∨ k = w.heap.size ∨ k = w.heap.size + 1) → M0 k ∨ w.heap.size ≤ k) := fun M' W3 J r' hJ hMs hk hj => by
      have hWa := hka.size
      have h3 : Own2 w.heap.size { r0 with state := .busy } W3 := hlb.kept hk ⟨hm0, by rw [hsz]; omega⟩ ⟨hm1, by rw [hsz]; omega⟩
      have n0 : ¬ M' w.heap.size := fun h => (hMs _ h).elim hm0 (fun h => by rw [hsz] at h; omega)
      have n1 : ¬ M' (w.heap.size + 1) := fun h => (hMs _ h).elim hm1 (fun h => by rw [hsz] at h; omega)
      refine ⟨h3, fun k hk => ?_, hbeg.trans ((hk.less (fun k hk => ⟨fun h => hk.1 ((hM k).2 (.inl h)), by rw [hsz]; omega⟩)).trans ((KeepM.putObj _ _ _).less (fun k hk e => hk.1 ((hM k).2 (.inr (.inr e)))))), ⟨M', hJ _ _ _ hj ((KeepM.putObj _ _ _).less (fun k hk e => n1 (e ▸ hk))), h3.turn r', n0, n1, fun k => Iff.rfl⟩, fun k hk => ?_⟩
      · rcases hk with h | h | h
        · rcases hMs k h with h | h
          · exact .inl ((hM k).2 (.inl h))
          · right; rw [hsz] at h; omega
        · exact .inl ((hM k).2 (.inr (.inl h)))
        · exact .inl ((hM k).2 (.inr (.inr h)))
      · rcases hk with h | h | h
        · rcases hMs k h with h | h
          · exact hMM k ((hM k).2 (.inl h))
          · right; rw [hsz] at h; omega
        · right; omega
        · right; omega
    have left : ∀ (c : Code) (M' : Nat → Prop) (W3 : World), (∀ k, M' k → M1 k ∨ (Wa.putObj (w.heap.size + 1) (.loop { r0 with state := .busy })).heap.size ≤ k) →
        KeepM (fun k => ¬ M1 k ∧ k < (Wa.putObj (w.heap.size + 1) (.loop { r0 with state := .busy })).heap.size) (Wa.putObj (w.heap.size + 1) (.loop { r0 with state := .busy })) W3 → Ix c (pre ++ [x]) M' W3 →
        ∃ v w', (Instr.endRound (w.heap.size + 1) (some c)).run P W3 = .ok v w' ∧ ∃ M' : Nat → Prop, (∀ k, M' k → M k ∨ W.heap.size ≤ k) ∧ KeepM (fun k => ¬ M k ∧ k < W.heap.size) W w' ∧ ((Ending.returned v = .returned (.bool true) ∧ (With2 w.heap.size r0 (I (pre ++ [x])) M' w' ∧ ∀ k, M' k → M0 k ∨ w.heap.size ≤ k) ∧ Kp W w') ∨ (Ending.returned v = .returned (.bool false) ∧ ∃ c, With2 w.heap.size { r0 with state := .done, pending := some c } (Ix c (pre ++ [x])) M' w' ∧ ∀ k, M' k → M0 k ∨ w.heap.size ≤ k)) := fun c M' W3 hMs hk hi => by
      obtain ⟨h3, h4, h5, h6, h7⟩ := fin M' W3 (Ix c (pre ++ [x])) { r0 with state := .done, pending := some c } (fun M A B => hIx c _ M A B) hMs hk hi
      exact ⟨_, _, h3.ends (some c), _, h4, h5, .inr ⟨rfl, c, h6, h7⟩⟩
    rintro e a3 W3 hp
    cases e with
    | normal =>
      obtain ⟨hkp, M', hMs, hk, hi3⟩ := hp
      obtain ⟨h3, h4, h5, h6, h7⟩ := fin M' W3 (I (pre ++ [x])) r0 (fun M A B => hI _ M A B) hMs hk hi3
      exact ⟨_, _, h3.ends none, _, h4, h5, .inl ⟨rfl, ⟨h6, h7⟩, hKt hpa (hKt hpb (hKt hkp (hKb _ _ _ h3.1 rfl)))⟩⟩
    | ret => obtain ⟨M', hMs, hk, hi⟩ := hp; exact left _ M' _ hMs hk hi
    | exit id => obtain ⟨M', hMs, hk, hi⟩ := hp; exact left _ M' _ hMs hk hi
    | goto t => obtain ⟨M', hMs, hk, hi⟩ := hp; exact left _ M' _ hMs hk hi
    | panic ch => exact hp.elim
    | outgrown => exact hp.elim
  · -- behind all rounds
    rintro e W2 ⟨⟨v, rfl⟩, M', hMs, (⟨xs, hS, ⟨M1, hi, hl, hm0, hm1, hM⟩, hMM⟩ | ⟨pre, hSp, c, ⟨M1, hi, hl, hm0, hm1, hM⟩, hMM⟩)⟩
    · exact ⟨none, _, run_endLoop hl.1 (by simp [r0]), hdone _ xs M1 _ (Nat.le_refl _) hm0 (fun k hk => hMM k ((hM k).2 (.inl hk))) hS (hI _ _ _ _ hi ((KeepM.putObj _ _ _).less (fun k hk e => hm1 (e ▸ hk)))) ((World.putObj_heap_other (by omega)).trans hl.2)⟩
    · exact ⟨some c, _, run_endLoop hl.1 (by simp), hstop _ c pre M1 _ (Nat.le_refl _) hm0 (fun k hk => hMM k ((hM k).2 (.inl hk))) hSp (hIx c _ _ _ _ hi ((KeepM.putObj _ _ _).less (fun k hk e => hm1 (e ▸ hk)))) ((World.putObj_heap_other (by omega)).trans hl.2)⟩
end
end Go
end
section
namespace Go.Proofs
open Go.RowKit Go.Shelf
set_option linter.unusedVariables false
set_option linter.unusedSimpArgs false

/-! ### A domain's chain -/
abbrev PF := Int → Int → Option (Int × Int)
/-- What a ref's parent is, where the ref names a domain. -/
def Tab.par (t : Tab Dm) : PF := fun i q => if t.has i q then some ((t.at_ i q).pi, (t.at_ i q).pg) else none
theorem par_none {t : Tab Dm} {i q : Int} : t.par i q = none ↔ t.has i q = false := by
  unfold Tab.par; cases t.has i q <;> simp
theorem par_some {t : Tab Dm} {i q a b : Int} : t.par i q = some (a, b) ↔ t.has i q = true ∧ (t.at_ i q).pi = a ∧ (t.at_ i q).pg = b := by
  unfold Tab.par; cases t.has i q <;> simp
/-- From a ref upwards: itself, its parent, and so on. -/
inductive Up (f : PF) : Int → Int → List (Int × Int) → Prop where
  | stop {i q : Int} : f i q = none → Up f i q []
  | step {i q a b : Int} {l : List (Int × Int)} : f i q = some (a, b) → Up f a b l → Up f i q ((i, q) :: l)
theorem Up.det {f : PF} {i q : Int} {l l' : List (Int × Int)} (h : Up f i q l) (h' : Up f i q l') : l = l' := by
  induction h generalizing l' with
  | stop e => cases h' with
    | stop _ => rfl
    | step e' _ => rw [e] at e'; cases e'
  | step e _ ih => cases h' with
    | stop e' => rw [e] at e'; cases e'
    | step e' h2 => rw [e] at e'; cases e'; rw [ih h2]
theorem Up.nil {f : PF} {i q : Int} (h : Up f i q []) : f i q = none := by cases h; assumption
theorem Up.cons {f : PF} {i q : Int} {x : Int × Int} {l : List (Int × Int)} (h : Up f i q (x :: l)) : x = (i, q) ∧ ∃ a b, f i q = some (a, b) ∧ Up f a b l := by
  cases h with | step e h => exact ⟨rfl, _, _, e, h⟩
/-- Domains of that shape lie at c. -/
def Shape (c : Nat) (f : PF) (W : World) : Prop := ∃ S t, DomAt W c S t ∧ t.par = f
/-- Parents have places that may be. -/
def Fit (f : PF) : Prop := ∀ i q a b, f i q = some (a, b) → -9223372036854775808 ≤ a ∧ a ≤ 9223372036854775807
def KpC (c : Nat) (f : PF) (rB dB : Nat) (A B : World) : Prop := (A.heap.size ≤ B.heap.size ∧ B.heap[rB]? = A.heap[rB]? ∧ B.heap[dB]? = A.heap[dB]?) ∧ (Shape c f A → Shape c f B)
theorem KpC.trans {c : Nat} {f : PF} {rB dB : Nat} {A B C : World} (h : KpC c f rB dB A B) (k : KpC c f rB dB B C) : KpC c f rB dB A C :=
  ⟨⟨Nat.le_trans h.1.1 k.1.1, k.1.2.1.trans h.1.2.1, k.1.2.2.trans h.1.2.2⟩, fun hs => k.2 (h.2 hs)⟩
theorem KpC.quiet {c : Nat} {f : PF} {rB dB : Nat} {A B : World} (h : Chg [] A B) (hr : rB < A.heap.size) (hd : dB < A.heap.size) : KpC c f rB dB A B :=
  ⟨⟨h.size, h.block _ hr (by simp), h.block _ hd (by simp)⟩, fun ⟨S, t, h1, h2⟩ => ⟨S, t, h1.quiet h, h2⟩⟩
theorem Shape.off {c : Nat} {f : PF} {A B : World} (h : Shape c f A) (hb : ∀ (k : Nat) (t : TypeId) (cs : Array Value), Blk A k t cs → Blk B k t cs) : Shape c f B := by
  obtain ⟨S, t, ⟨g, h1, ⟨VS, VF, hB, hS, hF, hSS⟩, h3⟩, h4⟩ := h
  have row : ∀ {e : TypeId} {size n : Nat} {v : Value} {xs : List Value}, Row A e size v n xs → Row B e size v n xs := fun {e size n v xs} hr => by
    refine ⟨hr.1, ?_⟩
    rcases hr.2 with h0 | ⟨g, cap, cur, rfl, hg, r⟩
    · exact .inl h0
    · exact .inr ⟨g, cap, cur, rfl, hb _ _ _ hg, r⟩
  exact ⟨S, t, ⟨g, hb _ _ _ h1, ⟨VS, VF, hb _ _ _ hB, row hS, row hF, hSS⟩, h3⟩, h4⟩
theorem blk_putObj {A : World} {b : Nat} {o o' : Obj} (hl : A.heap[b]? = some o) (ho : o.isCells = false) (k : Nat) (t : TypeId) (cs : Array Value) (h : Blk A k t cs) : Blk (A.putObj b o') k t cs := by
  refine h.same (World.putObj_heap_other ?_)
  rintro rfl
  unfold Blk at h
  rw [h] at hl; cases hl; cases ho
theorem KpC.alloc {c : Nat} {f : PF} {rB dB : Nat} (W : World) (o : Obj) (hr : rB < W.heap.size) (hd : dB < W.heap.size) : KpC c f rB dB W (W.alloc o) := KpC.quiet ((Chg.refl _ _).alloc _) hr hd
theorem KpC.part {c : Nat} {f : PF} {rB dB B : Nat} {A C : World} {cs : Array Value} (h : Blk A B 34 cs) (hr : B ≠ rB ∧ rB < A.heap.size) (hd : B ≠ dB ∧ dB < A.heap.size) (hk : KeepM (fun k => k ≠ B ∧ k < A.heap.size) A C) : KpC c f rB dB A C := by
  refine ⟨⟨hk.size, hk.block _ ⟨Ne.symm hr.1, hr.2⟩, hk.block _ ⟨Ne.symm hd.1, hd.2⟩⟩, ?_⟩
  rintro ⟨S, t, hd, ht⟩
  have hne := hd.ne_ty h (by decide) (by decide) (by decide) (by decide)
  have hlt := hd.lt
  obtain ⟨g, h1, h2, h3⟩ := hd
  refine ⟨S, t, ⟨g, h1.same (hk.block _ ⟨fun e => hne (by simp [e]), hlt _ (by simp)⟩), h2.same (fun k hk' => hk.block _ ⟨fun e => hne (by simp [← e, hk']), hlt _ (by simp [hk'])⟩), h3⟩, ht⟩
abbrev encR (x : Int × Int) : Array Value := #[.agg #[.int .i64 x.1, .int .u64 x.2]]
theorem chain_any (w : World) (c : Nat) (i q : Int) :
    Calls Try.prog 54 #[ptr c, .agg #[.int .i64 i, .int .u64 q]] w fun e w' => e = .returned (.func (.func 76) #[] #[ptr (w.heap.size + 1), ptr w.heap.size]) ∧ w' = (w.alloc (.cells #[ptr c] 25)).alloc (obRef i q) := by
  go_enter Try.func54, Try.ntmps54
  go_wp2
  go_ret
  exact ⟨rfl, rfl⟩
set_option maxHeartbeats 1600000 in
set_option maxRecDepth 100000 in
theorem chain_foot {n : Nat} {w : World} {c rB dB : Nat} {f : PF} {i q : Int} {L : List (Int × Int)} (hn : 1 ≤ n) (hR : Blk w rB 34 #[.int .i64 i, .int .u64 q]) (hD : Blk w dB 25 #[ptr c]) (hS : Shape c f w) (hf : Fit f) (hU : Up f i q L)
    (i0 : -9223372036854775808 ≤ i) (i1 : i ≤ 9223372036854775807) :
    SeqFoot Fence.wide n Try.prog 76 #[ptr rB, ptr dB] encR (KpC c f rB dB) (fun pre x => pre ++ [x] <+: L) (fun xs => xs = L) (fun pre => pre <+: L) L.length (n - 1) w := by
  intro l J Jx M0 W hW hJ hJl hY hJx h0
  have lr := hR.lt
  have ld := hD.lt
  have rW : Blk W rB 34 #[.int .i64 i, .int .u64 q] := hR.same hW.1.2.1
  have b0 := rW.cell 0
  have b1 := rW.cell 1
  have HRD := Lib.hid (show rB < W.heap.size ∧ dB < W.heap.size from ⟨rW.lt, Nat.lt_of_lt_of_le ld hW.1.1⟩)
  have HDW := Lib.hid (fun W' (h : KpC c f rB dB W W') => (show Blk W' dB 25 #[ptr c] from (hD.same hW.1.2.2).same h.1.2.2))
  have HSW := Lib.hid (fun W' (h : KpC c f rB dB W W') => h.2 (hW.2 hS))
  have HJ := Lib.hid hJ
  have HJL := Lib.hid hJl
  have HF := Lib.hid hf
  clear hR hD hS hf rW lr ld
  refine callsIn_of_wp Try.func76 rfl trivial ?_ rfl
  simp only [Try.ntmps76, List.size_toArray, List.length_cons, List.length_nil, Nat.reduceAdd, Nat.reduceSub, Array.replicate_succ, Array.replicate_zero, List.push_toArray, List.append_toArray, List.nil_append, List.cons_append]
  gi_wp2
  gi_loopg [4] L.length (fun gh b4 wr => ∃ (pre rest : List (Int × Int)) (B : Nat) (a b : Int) (M : Nat → Prop), gh = rest.length ∧ b4 = .pointer (some ⟨B, 0, none⟩) ∧ Hid (L = pre ++ rest ∧ Up f a b rest ∧ KpC c f rB dB W wr ∧ J pre M wr ∧ (¬ M B ∧ W.heap.size ≤ B) ∧ (∀ k, M k → M0 k ∨ W.heap.size ≤ k) ∧ (-9223372036854775808 ≤ a ∧ a ≤ 9223372036854775807)) ∧ Hid (Blk wr B 34 #[.int .i64 a, .int .u64 b]))
  case atStart =>
    refine ⟨[], L, W.heap.size, i, q, M0, rfl, rfl, Lib.hid ⟨rfl, hU, KpC.alloc W _ HRD.out.1 HRD.out.2, HJ.out _ _ _ _ h0 ((KeepM.alloc W _).less (HJL.out _ _ _ h0)), ⟨fun h => by have := HJL.out _ _ _ h0 _ h; omega, Nat.le_refl _⟩, fun k hk => .inl hk, i0, i1⟩, Lib.hid (Blk.new W 34 _)⟩
  case round =>
    obtain ⟨pre, rest, B, a, b, M, rfl, rfl, HH, HB⟩ := hrel
    obtain ⟨hL, hup, hk, hj, ⟨hMB, hWB⟩, hM0, a0, a1⟩ := HH.out
    obtain ⟨S, t, hdom, hpar⟩ := HSW.out _ hk
    have hdB := HDW.out _ hk
    have d0 := hdB.cell 0
    have c0 := HB.out.cell 0
    have c1 := HB.out.cell 1
    have lB := HB.out.lt
    have HG := Lib.hid (Get_any hdom a b a0 a1)
    obtain ⟨x, hx⟩ : ∃ x, x = t.at_ a b := ⟨_, rfl⟩
    rw [← hx] at HG
    have sz := hk.1.1
    have lrw : rB < wr.heap.size := Nat.lt_of_lt_of_le HRD.out.1 sz
    have ldw : dB < wr.heap.size := Nat.lt_of_lt_of_le HRD.out.2 sz
    cases rest with
    | nil =>
      have hno := par_none.1 (hpar ▸ hup.nil)
      have e0 : staleE t a b = 11 := by unfold staleE; rw [hno]; rfl
      rw [e0] at HG
      have HL := Lib.hid hL
      have Hj := Lib.hid hj
      have HM0 := Lib.hid hM0
      clear hup hno e0 hx hpar hdom hL hj hk HH hdB hM0
      gi_wp2_with (refine ⟨trivial, ?_⟩; gi_at_call 27; refine (callsIn_wide.2 HG.out).mono ?_; rintro e w1 ⟨rfl, hc⟩; have HC := Lib.hid hc; clear hc)
      refine ⟨(fun f h => by cases h), ?_⟩
      gi_wp2_with (fail)
      refine bodyPost_ret (results_none rfl _ _ _) rfl ?_
      have hjj : J pre M (w1.alloc (obX x)) := HJ.out _ _ _ _ Hj.out (KeepM.of_chg (S := []) (HC.out.alloc _) (fun k hk => ⟨HJL.out _ _ _ Hj.out k hk, by simp⟩))
      exact ⟨⟨_, rfl⟩, M, HM0.out, .inl ⟨pre, by rw [HL.out, List.append_nil], hjj⟩⟩
    | cons y rest =>
      obtain ⟨rfl, pa, pb, hfab, hup'⟩ := hup.cons
      obtain ⟨hhas, hpi, hpg⟩ := par_some.1 ((congrFun (congrFun hpar a) b).trans hfab)
      have e0 : staleE t a b = 0 := by unfold staleE; rw [hhas]; rfl
      rw [e0] at HG
      rw [← hx] at hpi hpg
      subst hpi hpg
      obtain ⟨p0, p1⟩ := HF.out _ _ _ _ hfab
      have HL := Lib.hid hL
      have Hj := Lib.hid hj
      have HM0 := Lib.hid hM0
      have HUP := Lib.hid hup'
      have HK := Lib.hid hk
      have hjY := fun w1 (hc : Chg [] wr w1) => hY pre M (a, b) (w1.alloc (obX x)) (HJ.out _ _ _ _ hj (KeepM.of_chg (S := []) (hc.alloc _) (fun k hk => ⟨HJL.out _ _ _ hj k hk, by simp⟩))) (by rw [hL]; exact ⟨rest, by simp⟩) (by rw [hL]; simp)
      have HYY := Lib.hid hjY
      clear hup hup' hhas e0 hx hpar hdom hL hj hk HH hdB hM0 hfab hjY hY
      gi_wp2_with (refine ⟨trivial, ?_⟩; gi_at_call 27; refine (callsIn_wide.2 HG.out).mono ?_; rintro e w1 ⟨rfl, hc⟩; have HC := Lib.hid hc; obtain ⟨fn, tmps, assign, body, hy, hRo⟩ := HYY.out w1 hc; have c0' := ((HB.out.chg hc (by simp)).alloc (obX x)).cell 0; have c1' := ((HB.out.chg hc (by simp)).alloc (obX x)).cell 1; clear hc)
      refine hRo.mono ?_
      rintro e W3 ⟨M', hM', hk3, hor⟩
      have z1 := HC.out.size
      have hx3 : Blk W3 w1.heap.size 59 x.arr := (Blk.new w1 59 x.arr).same (hk3.block _ ⟨fun h => by have := HJL.out _ _ _ Hj.out _ h; omega, by simp⟩)
      have hb3 : Blk W3 B 34 #[.int .i64 a, .int .u64 b] := ((HB.out.chg HC.out (by simp)).alloc (obX x)).same (hk3.block _ ⟨hMB, by simp; omega⟩)
      rcases hor with ⟨rfl, hJ3, hkp3⟩ | ⟨rfl, hJx3⟩
      · obtain ⟨l3, k0, k1, k2, k3, k4, k5, k6, k7, k8, k9, k10, kf⟩ := x_facts hx3
        have f0 := hb3.frozen 0
        have f1 := hb3.frozen 1
        have v0 := hb3.cell 0
        have v1 := hb3.cell 1
        have lb3 := hb3.lt
        have hnB : ¬ M' B := fun h => by
          rcases hM' B h with h | h
          · exact hMB h
          · simp at h; omega
        have hne : B ≠ w1.heap.size := by omega
        have HJ3 := Lib.hid hJ3
        have HK3 := Lib.hid (HK.out.trans ((KpC.quiet (HC.out.alloc (obX x)) lrw ldw).trans hkp3))
        have HM' := Lib.hid hM'
        have HNB := Lib.hid hnB
        have HB3 := Lib.hid hb3
        clear hJ3 hkp3 hk3 hb3 hx3 hM' hnB
        gi_wp2
        gi_roundg rest.length
        case measure => simp
        case rel =>
          have hk4 : KeepM (fun k => k ≠ B ∧ k < W3.heap.size) W3 (((W3.setCell ⟨B, 0, none⟩ (.int .i64 x.pi)).setCell ⟨B, 1, none⟩ (.int .u64 x.pg)).alloc (obRef x.pi x.pg)) :=
            (((KeepM.setCell W3 ⟨B, 0, none⟩ (.int .i64 x.pi)).less (fun k hk => hk.1)).trans ((KeepM.setCell _ ⟨B, 1, none⟩ (.int .u64 x.pg)).less (fun k hk => hk.1))).trans ((KeepM.alloc _ _).less (fun k hk => by simp [World.setCell]; exact hk.2))
          have hj4 := HJ.out _ _ _ _ HJ3.out (hk4.less (fun k hk => ⟨fun e => HNB.out (e ▸ hk), HJL.out _ _ _ HJ3.out k hk⟩))
          refine ⟨pre ++ [(a, b)], rest, W3.heap.size, x.pi, x.pg, M', rfl, rfl, Lib.hid ⟨by rw [HL.out]; simp, HUP.out, HK3.out.trans ?_, hj4, ⟨fun h => by have := HJL.out _ _ _ HJ3.out _ h; omega, by omega⟩, fun k hk => ?_, p0, p1⟩, Lib.hid ?_⟩
          · exact KpC.part HB3.out (by have := HRD.out.1; omega) (by have := HRD.out.2; omega) hk4
          · rcases HM'.out k hk with h | h
            · exact HM0.out k h
            · right; simp at h; omega
          · exact Blk.at' _ 34 _ (by simp [World.setCell])
      · have HJ3 := Lib.hid hJx3
        have HM' := Lib.hid hM'
        clear hJx3 hk3 hb3 hx3 hM'
        gi_wp2
        refine bodyPost_ret (results_none rfl _ _ _) rfl ?_
        refine ⟨⟨_, rfl⟩, M', fun k hk => ?_, .inr ⟨_, by rw [HL.out]; exact ⟨rest, by simp⟩, HJ3.out⟩⟩
        rcases HM'.out k hk with h | h
        · exact HM0.out k h
        · right; simp at h; omega
end Go.Proofs
end
section
namespace Go.Proofs
open Go.RowKit Go.Shelf
set_option linter.unusedVariables false
set_option linter.unusedSimpArgs false

/-! ### Changing what a ref names -/
section
variable {t : Tab Dm} {i q j r : Int} {h : Dm → Dm}
theorem thing_live {t : Tab Dm} {k : Nat} {x : Dm} (j : Int) : (t.thing k x).live j = (t.live j).map (fun s => if j = (k : Nat) then { s with thing := x } else s) := by
  unfold Tab.thing
  cases hs : t.spots[k]? with
  | none =>
    cases hl : t.live j with
    | none => rfl
    | some s =>
      obtain ⟨j0, j1, j2⟩ := live_iff.1 hl
      have : ¬ j = (k : Nat) := fun e => by subst e; simp at j1; rw [hs] at j1; cases j1
      simp only [Option.map_some, if_neg this]
  | some s0 =>
    have hk := (List.getElem?_eq_some_iff.1 hs).1
    by_cases j0 : 0 ≤ j
    · obtain ⟨m, rfl⟩ := Int.eq_ofNat_of_zero_le j0
      by_cases e : m = k
      · subst e
        cases hl : t.live (m : Nat) with
        | none =>
          have hth : s0.there = false := by
            cases hb : s0.there with
            | false => rfl
            | true => have := live_nat.2 ⟨hs, hb⟩; rw [hl] at this; cases this
          show Tab.live _ _ = none
          unfold Tab.live Tab.spot?
          simp [List.getElem?_set_self hk, hth]
        | some s =>
          have e := (live_nat.1 hl).1
          have e2 := (live_nat.1 hl).2
          rw [hs] at e; cases e
          simp only [Option.map_some, if_true]
          exact live_nat.2 ⟨by show (t.spots.set _ _)[_]? = _; rw [List.getElem?_set_self hk], e2⟩
      · have e' : ¬ ((m : Nat) : Int) = (k : Nat) := by omega
        have : (fun s : Spot Dm => if ((m : Nat) : Int) = (k : Nat) then { s with thing := x } else s) = id := by funext s; rw [if_neg e']; rfl
        rw [this, Option.map_id]
        show Tab.live _ _ = Tab.live t _
        unfold Tab.live Tab.spot?
        simp [List.getElem?_set_ne (Ne.symm e)]
    · unfold Tab.live Tab.spot?
      simp [j0]
theorem upd_live (j : Int) : (t.upd i q h).live j = (t.live j).map (fun s => if t.has i q = true ∧ j = i then { s with thing := h (t.at_ i q) } else s) := by
  cases hq : t.has i q with
  | false => rw [Tab.upd_no hq]; simp
  | true =>
    rw [Tab.upd_yes hq, thing_live]
    obtain ⟨s, hl, _⟩ := has_iff.1 hq
    have := (live_iff.1 hl).1
    simp only [true_and, Int.toNat_of_nonneg this]
theorem upd_has : (t.upd i q h).has j r = t.has j r := by
  unfold Tab.has
  rw [upd_live]
  cases t.live j with
  | none => rfl
  | some s => simp only [Option.map_some]; split <;> rfl
theorem upd_at : (t.upd i q h).at_ j r = if t.has i q = true ∧ j = i ∧ r = q then h (t.at_ i q) else t.at_ j r := by
  conv => lhs; unfold Tab.at_
  rw [upd_live]
  cases hl : t.live j with
  | none =>
    simp only [Option.map_none]
    rw [if_neg, show t.at_ j r = dm0 by unfold Tab.at_; rw [hl]]
    rintro ⟨h1, rfl, rfl⟩
    obtain ⟨s, hl', _⟩ := has_iff.1 h1
    rw [hl] at hl'; cases hl'
  | some s =>
    simp only [Option.map_some]
    by_cases hq : t.has i q = true ∧ j = i
    · rw [if_pos hq]
      obtain ⟨h1, rfl⟩ := hq
      obtain ⟨s', hl', hg⟩ := has_iff.1 h1
      rw [hl] at hl'; cases hl'
      simp only
      by_cases e : s.gen = r
      · subst e; subst hg; simp [h1]
      · rw [if_neg e, if_neg (fun h => e (by rw [hg]; exact h.2.2.symm))]
        unfold Tab.at_; rw [hl]; simp [e]
    · have ha : t.at_ j r = if s.gen = r then s.thing else dm0 := by unfold Tab.at_; rw [hl]
      rw [if_neg hq, ha]
      exact (if_neg (fun h' : t.has i q = true ∧ j = i ∧ r = q => hq ⟨h'.1, h'.2.1⟩)).symm
theorem upd_par (hp : ∀ x, (h x).pi = x.pi ∧ (h x).pg = x.pg) : (t.upd i q h).par = t.par := by
  funext j r
  unfold Tab.par
  rw [upd_has]
  cases hj : t.has j r with
  | false => rfl
  | true =>
    simp only [if_true]
    rw [upd_at]
    split
    · rename_i e
      obtain ⟨_, rfl, rfl⟩ := e
      rw [(hp _).1, (hp _).2]
    · rfl
theorem thing_same {k : Nat} {x : Dm} : (t.thing k x).size = t.size ∧ (t.thing k x).first = t.first ∧ (t.thing k x).retired = t.retired ∧ (t.thing k x).freed = t.freed ∧ (t.thing k x).spots.length = t.spots.length := by
  unfold Tab.thing; split <;> simp
theorem upd_same : (t.upd i q h).size = t.size ∧ (t.upd i q h).first = t.first ∧ (t.upd i q h).retired = t.retired ∧ (t.upd i q h).freed = t.freed ∧ (t.upd i q h).spots.length = t.spots.length := by
  unfold Tab.upd; split
  · exact thing_same
  · simp
theorem upd_none (hq : t.has i q = false) : t.upd i q h = t := Tab.upd_no hq h
end
/-- Each one of a chain is changed. -/
def updAll (h : Dm → Dm) (l : List (Int × Int)) (t : Tab Dm) : Tab Dm := l.foldl (fun t r => t.upd r.1 r.2 h) t
theorem updAll_snoc (h : Dm → Dm) (l : List (Int × Int)) (x : Int × Int) (t : Tab Dm) : updAll h (l ++ [x]) t = (updAll h l t).upd x.1 x.2 h := by unfold updAll; rw [List.foldl_append]; rfl
theorem updAll_has (h : Dm → Dm) (l : List (Int × Int)) (t : Tab Dm) (j r : Int) : (updAll h l t).has j r = t.has j r := by
  induction l generalizing t with
  | nil => rfl
  | cons x l ih => exact (ih (t.upd x.1 x.2 h)).trans upd_has
theorem updAll_par {h : Dm → Dm} (hp : ∀ x, (h x).pi = x.pi ∧ (h x).pg = x.pg) (l : List (Int × Int)) (t : Tab Dm) : (updAll h l t).par = t.par := by
  induction l generalizing t with
  | nil => rfl
  | cons x l ih => exact (ih (t.upd x.1 x.2 h)).trans (upd_par hp)
theorem updAll_off (h : Dm → Dm) (l : List (Int × Int)) (t : Tab Dm) (j r : Int) (hn : (j, r) ∉ l) : (updAll h l t).at_ j r = t.at_ j r := by
  induction l generalizing t with
  | nil => rfl
  | cons x l ih =>
    refine (ih (t.upd x.1 x.2 h) (fun hm => hn (by simp [hm]))).trans ?_
    rw [upd_at, if_neg]
    rintro ⟨_, rfl, rfl⟩
    exact hn (by simp)
/-- What a chain's change makes of each. -/
theorem updAll_at (h : Dm → Dm) (l : List (Int × Int)) (hd : l.Nodup) (t : Tab Dm) (j r : Int) : (updAll h l t).at_ j r = if (j, r) ∈ l ∧ t.has j r = true then h (t.at_ j r) else t.at_ j r := by
  induction l generalizing t with
  | nil => simp [updAll]
  | cons x l ih =>
    obtain ⟨x1, x2⟩ := x
    obtain ⟨hx, hd'⟩ := List.nodup_cons.1 hd
    have e : updAll h ((x1, x2) :: l) t = updAll h l (t.upd x1 x2 h) := rfl
    rw [e, ih hd', upd_has, upd_at]
    by_cases ej : j = x1 ∧ r = x2
    · obtain ⟨rfl, rfl⟩ := ej
      cases hq : t.has j r <;> simp [hx, hq]
    · have : ¬ (t.has x1 x2 = true ∧ j = x1 ∧ r = x2) := fun h => ej h.2
      simp only [if_false, List.mem_cons, Prod.mk.injEq, ej, false_or, and_false]
theorem updAll_same (h : Dm → Dm) (l : List (Int × Int)) (t : Tab Dm) : (updAll h l t).size = t.size ∧ (updAll h l t).first = t.first ∧ (updAll h l t).retired = t.retired ∧ (updAll h l t).freed = t.freed ∧ (updAll h l t).spots.length = t.spots.length := by
  induction l generalizing t with
  | nil => exact ⟨rfl, rfl, rfl, rfl, rfl⟩
  | cons x l ih =>
    obtain ⟨a1, a2, a3, a4, a5⟩ := ih (t.upd x.1 x.2 h)
    obtain ⟨b1, b2, b3, b4, b5⟩ := upd_same (t := t) (i := x.1) (q := x.2) (h := h)
    exact ⟨a1.trans b1, a2.trans b2, a3.trans b3, a4.trans b4, a5.trans b5⟩
theorem updAll_wf (h : Dm → Dm) (l : List (Int × Int)) (t : Tab Dm) (hw : t.WF) : (updAll h l t).WF := by
  induction l generalizing t with
  | nil => exact hw
  | cons x l ih => exact ih _ (hw.upd _ _ _)
/-- A chain names each but once. -/
theorem Up.nodup {f : PF} {i q : Int} {l : List (Int × Int)} (h : Up f i q l) : l.Nodup := by
  have key : ∀ {i q : Int} {l : List (Int × Int)}, Up f i q l → ∀ x ∈ l, ∃ l', Up f x.1 x.2 l' ∧ l'.length ≤ l.length := by
    intro i q l h
    induction h with
    | stop e => intro x hx; cases hx
    | step e h ih =>
      intro x hx
      rcases List.mem_cons.1 hx with rfl | hx
      · exact ⟨_, Up.step e h, Nat.le_refl _⟩
      · obtain ⟨l', h1, h2⟩ := ih x hx
        exact ⟨l', h1, by simp; omega⟩
  induction h with
  | stop e => exact List.nodup_nil
  | step e h ih =>
    refine List.nodup_cons.2 ⟨fun hm => ?_, ih⟩
    obtain ⟨l', h1, h2⟩ := key h _ hm
    have := Up.det h1 (Up.step e h)
    subst this
    simp at h2
    omega
theorem Up.has {t : Tab Dm} {i q : Int} {l : List (Int × Int)} (h : Up t.par i q l) : ∀ x ∈ l, t.has x.1 x.2 = true := by
  induction h with
  | stop e => intro x hx; cases hx
  | step e h ih =>
    intro x hx
    rcases List.mem_cons.1 hx with rfl | hx
    · exact (par_some.1 e).1
    · exact ih x hx
theorem Up.mem_fit {f : PF} (hf : Fit f) {i q : Int} {l : List (Int × Int)} (h : Up f i q l) (i0 : -9223372036854775808 ≤ i) (i1 : i ≤ 9223372036854775807) : ∀ x ∈ l, -9223372036854775808 ≤ x.1 ∧ x.1 ≤ 9223372036854775807 := by
  induction h with
  | stop e => intro x hx; cases hx
  | step e h ih =>
    intro x hx
    rcases List.mem_cons.1 hx with rfl | hx
    · exact ⟨i0, i1⟩
    · have := hf _ _ _ _ e
      exact ih this.1 this.2 x hx
end Go.Proofs
end
section
namespace Go.Proofs
open Go.RowKit Go.Shelf
set_option linter.unusedVariables false
set_option linter.unusedSimpArgs false
attribute [local go_sem] Oper.semAt_some

theorem wpListIn_append_row {F : Fence} {nF : Nat} {P : Program} (w : World) {ops : Array Oper} {rest : List Oper} {o : Oper} {a : Act} {Q : Exit → Act → World → Prop} (hg : o.guard = none) (s x : Operand) (t : TypeId)
    (ho : o.op = .call { callee := .builtin .append, args := #[s, x], argTypes := #[t, t] })
    (e : TypeId) (i : TypeInfo) (z : Value) (size bytes : Nat) (ht : P.underlying t = some (.slice e)) (hi : P.info? e = some i) (hz : i.zero = some z)
    (hsize : i.size = size) (hby : i.bytes = bytes) (hzs : z.cells.size = size)
    (v : Value) (n : Nat) (xs : List Value) (hs : a.eval s = v) (hr : Row w e size v n xs)
    (ad : Addr) (m c : Nat) (news : List Value) (hx : a.eval x = .slice (some ad) m c) (hl : news.length = m * size) (hnews : ∀ j u, news[j]? = some u → w.cell? (ad.add j) = some u) (h1 : ∀ u ∈ news, u.oneCell' = true)
    (hm : 0 < m) (h63 : n + m ≤ maxLen) (hbytes : (n + m) * bytes ≤ 140737488355328) (H : Nat) (hH : w.heap.size = H)
    (hK : ∀ g cap w', Row w' e size (.slice (some ⟨g, 0, none⟩) (n + m) cap) (n + m) (xs ++ news) → w.grownBy w' v.ownBlock → (v.ownBlock = some g ∨ g = H) → g < w'.heap.size → wpListIn F nF P ops Q rest (a.put o.dst (.slice (some ⟨g, 0, none⟩) (n + m) cap)) w') :
    wpListIn F nF P ops Q (o :: rest) a w := by
  refine wpListIn_plain hg fun K hK' => ?_
  obtain ⟨g, cap, w', hrun, r1, r2, r3, r4⟩ := run_append_row (P := P) w t o.type e i z size bytes ht hi hz hsize hby hzs v n xs hr ad m c news hl hnews h1 hm h63 hbytes H hH
  unfold Oper.wpIn
  refine ⟨?_, ?_⟩
  · simp [Oper.about, ho, resolve, Target.leads, Sem.run_pure]
  · rw [Oper.semAt_plain F _ _ (by rw [ho]; intro c hc'; cases hc')]
    simp [execOp, ho, resolve, invoke, builtin, hs, hx, hrun, Result.andThen]
    exact hK' _ _ (hK _ _ _ r1 r2 r3 r4)
theorem grown_keepM {A B : World} {v : Value} {M : Nat → Prop} (h : A.grownBy B v.ownBlock) (hM : ∀ k, M k → k < A.heap.size ∧ k ∉ foot v) : KeepM M A B :=
  ⟨h.os, h.tape, h.output, h.size, fun k hk => h.block k (hM k hk).1 (fun e => (hM k hk).2 (row_mem e.symm))⟩
/-- The kinds of blocks of which a table of domains is. -/
def DomTy (t : TypeId) : Prop := t = 110 ∨ t = 139 ∨ t = 135 ∨ t = 3
theorem Shape.kinds {c : Nat} {f : PF} {A B : World} (h : Shape c f A) (hb : ∀ (k : Nat) (t : TypeId) (cs : Array Value), DomTy t → Blk A k t cs → Blk B k t cs) : Shape c f B := by
  obtain ⟨S, t, ⟨g, h1, ⟨VS, VF, hB, hS, hF, hSS⟩, h3⟩, h4⟩ := h
  have row : ∀ {e : TypeId} {size n : Nat} {v : Value} {xs : List Value}, DomTy e → Row A e size v n xs → Row B e size v n xs := fun {e size n v xs} he hr => by
    refine ⟨hr.1, ?_⟩
    rcases hr.2 with h0 | ⟨g, cap, cur, rfl, hg, r⟩
    · exact .inl h0
    · exact .inr ⟨g, cap, cur, rfl, hb _ _ _ he hg, r⟩
  exact ⟨S, t, ⟨g, hb _ _ _ (.inl rfl) h1, ⟨VS, VF, hb _ _ _ (.inr (.inl rfl)) hB, row (.inr (.inr (.inl rfl))) hS, row (.inr (.inr (.inr rfl))) hF, hSS⟩, h3⟩, h4⟩
def refCells (l : List (Int × Int)) : List Value := l.flatMap fun x => [.int .i64 x.1, .int .u64 x.2]
theorem refCells_len (l : List (Int × Int)) : (refCells l).length = l.length * 2 := flat_len (s := 2) (fun _ => rfl) l
theorem refCells_snoc (l : List (Int × Int)) (x : Int × Int) : refCells (l ++ [x]) = refCells l ++ [.int .i64 x.1, .int .u64 x.2] := by unfold refCells; simp
theorem refCells_at {l : List (Int × Int)} {k : Nat} {x : Int × Int} (h : l[k]? = some x) : (refCells l)[k * 2]? = some (.int .i64 x.1) ∧ (refCells l)[k * 2 + 1]? = some (.int .u64 x.2) :=
  ⟨flat_at (s := 2) (fun _ => rfl) (j := 0) h rfl, flat_at (s := 2) (fun _ => rfl) (j := 1) h rfl⟩
theorem Try.info_R : (Try.prog.info? 34).map (fun i => (i.zero, i.size, i.bytes)) = some (some (.agg #[.int .i64 0, .int .u64 0]), 2, 16) := by kernel_rfl

set_option maxHeartbeats 3200000 in
set_option maxRecDepth 100000 in
theorem appendSeq_in (n : Nat) (hn : 6 ≤ n) {w : World} {c rB dB : Nat} {f : PF} {i q : Int} {L : List (Int × Int)} (hR : Blk w rB 34 #[.int .i64 i, .int .u64 q]) (hD : Blk w dB 25 #[ptr c]) (hS : Shape c f w) (hf : Fit f) (hU : Up f i q L) (hL : L.length ≤ 100000)
    (i0 : -9223372036854775808 ≤ i) (i1 : i ≤ 9223372036854775807) :
    CallsIn Fence.wide n Try.prog 75 #[.slice none 0 0, .func (.func 76) #[] #[ptr rB, ptr dB]] w fun e w' => ∃ V, e = .returned V ∧ Row w' 34 2 V L.length (refCells L) ∧ (∀ k ∈ foot V, w.heap.size ≤ k) ∧ Chg [] w w' := by
  have h1 : 1 ≤ n := by omega
  refine callsIn_of_wp_marks Try.func75 rfl trivial ?_ rfl
  simp only [Try.ntmps75, List.size_toArray, List.length_cons, List.length_nil, Nat.reduceAdd, Nat.reduceSub, Array.replicate_succ, Array.replicate_zero, List.push_toArray, List.append_toArray, List.nil_append, List.cons_append]
  gi_wp2
  have bS := Blk.new w 27 #[.slice none 0 0]
  have hR0 := hR.alloc (.cells #[.slice none 0 0] 27)
  have hD0 := hD.alloc (.cells #[.slice none 0 0] 27)
  have hS0 : Shape c f (w.alloc (.cells #[.slice none 0 0] 27)) := (KpC.alloc (c := c) (f := f) w _ hR.lt hD.lt).2 hS
  have hC0 : Chg [] w (w.alloc (.cells #[.slice none 0 0] 27)) := (Chg.refl _ _).alloc _
  have hz0 : (w.alloc (.cells #[.slice none 0 0] 27)).heap.size = w.heap.size + 1 := by simp
  obtain ⟨W0, hW0⟩ : ∃ W0, (w.alloc (.cells #[.slice none 0 0] 27)) = W0 := ⟨_, rfl⟩
  rw [hW0] at bS hR0 hD0 hS0 hC0 hz0 ⊢
  clear hW0
  have lr := hR.lt
  have ld := hD.lt
  obtain ⟨in0, hi0, hq0, hq1, hq2⟩ := info_parts Try.info_R
  refine wpIn_rangeFunc_foot rfl h1 (gf := 76) (lb := #[ptr rB, ptr dB]) rfl trivial (enters_of Try.func76 (by kernel_rfl) rfl)
    (chain_foot (n := n - 1) (by omega) hR0 hD0 hS0 hf hU i0 i1) (fun h k => h.trans k) (fun W o hle => KpC.alloc W o (by omega) (by omega))
    (fun W o o' hl ho => ⟨⟨by simp [World.putObj], World.putObj_heap_other (by omega), World.putObj_heap_other (by omega)⟩, fun hs => hs.off (blk_putObj hl ho)⟩) ⟨⟨Nat.le_refl _, rfl, rfl⟩, id⟩ (fun _ => rfl)
    (fun pre M W => ∃ A cc, Blk W w.heap.size 27 #[.slice A pre.length cc] ∧ Row W 34 2 (.slice A pre.length cc) pre.length (refCells pre) ∧ (∀ k, M k ↔ (k < W0.heap.size ∨ k ∈ foot (.slice A pre.length cc))) ∧ (∀ k ∈ foot (.slice A pre.length cc), W0.heap.size ≤ k) ∧ Chg [w.heap.size] W0 W) (fun _ _ _ _ => False)
    ?hI ?hIl (fun c s M A B hs _ => hs) (M0 := fun k => k < W0.heap.size ∨ k ∈ foot (.slice none 0 0)) ⟨none, 0, bS, Row.nil _ _ _, fun k => Iff.rfl, fun k hk => (by cases hk), Chg.refl _ _⟩
    (fun x a' W => ∃ Bx, Blk W Bx 34 #[.int .i64 x.1, .int .u64 x.2] ∧ a' = { tmps := #[.slice none 0 0, .func (.func 76) #[] #[ptr rB, ptr dB], ptr w.heap.size, undef, .slice none 0 0, ptr Bx, .func (.func 76) #[] #[ptr rB, ptr dB], .agg #[.int .i64 x.1, .int .u64 x.2], undef, undef, undef, undef, undef], defers := [] })
    ?hAx ?assign ?body ?done ?stop
  case hI =>
    rintro pre M A B ⟨A', cc, hB, hr, hM, hF, hC⟩ hk
    exact ⟨A', cc, hB.same (hk.block _ ((hM _).2 (.inl (by omega)))), hr.same (fun k hk' => hk.block _ ((hM k).2 (.inr hk'))), hM, hF, ⟨hk.os.trans hC.os, hk.tape.trans hC.tape, hk.output.trans hC.output, Nat.le_trans hC.size hk.size, fun k hk1 hk2 => (hk.block k ((hM k).2 (.inl hk1))).trans (hC.block k hk1 hk2)⟩⟩
  case hIl =>
    rintro pre M A ⟨A', cc, hB, hr, hM, hF, hC⟩ k hk
    rcases (hM k).1 hk with h | h
    · exact Nat.lt_of_lt_of_le h hC.size
    · exact hr.lt k h
  case hAx => exact fun x a' W o o' ⟨Bx, h1, h2⟩ hl ho => ⟨Bx, blk_putObj hl ho _ _ _ h1, h2⟩
  case assign =>
    rintro l pre x M W K ⟨A', cc, hB, hr, hM, hF, hC⟩ hT hK
    simp only [encR]
    gi_wp2
    have hz := hC.size
    exact hK _ _ (KeepM.alloc W _) (KpC.alloc W _ (by omega) (by omega)) ⟨W.heap.size, Blk.new W 34 _, rfl⟩
  case body =>
    rintro l pre x a' M W ⟨A', cc, hB, hr, hM, hF, hC⟩ hT ⟨Bx, bX, rfl⟩ hlen hMx
    have c0 := hB.cell 0
    have f0 := hB.frozen 0
    have x0 := bX.cell 0
    have x1 := bX.cell 1
    have lS := hB.lt
    have hz := hC.size
    have hn1 : w.heap.size ∉ foot (.slice A' pre.length cc) := hr.ty hB (by decide)
    have hn2 : (Value.slice A' pre.length cc).ownBlock ≠ some w.heap.size := fun e => hn1 (row_mem e)
    have HB := Lib.hid hB
    have HR := Lib.hid hr
    have HM := Lib.hid hM
    have HF := Lib.hid hF
    have HC := Lib.hid hC
    obtain ⟨xi, xq⟩ := x
    have hpl : pre.length + 1 ≤ 100001 := by omega
    clear hB hr hM hF hC bX
    gi_wp2_with (gi_at_builtin; refine wpListIn_append_row _ rfl _ _ 27 rfl 34 in0 (.agg #[.int .i64 0, .int .u64 0]) 2 16 Try.underlying27 hi0 hq0 hq1 hq2 rfl _ _ _ rfl (HR.out.alloc _) ⟨W.heap.size, 0, none⟩ 1 1 [.int .i64 xi, .int .u64 xq] rfl rfl (World.news_of_block (cs := #[.int .i64 xi, .int .u64 xq]) (t := 34) (fr := (0, 0)) (heap_alloc_new W _)) (by simp [Value.oneCell']) (by omega) (by unfold maxLen; omega) (by omega) (W.heap.size + 1) (by simp) ?_; intro gg cap w1 hown hgrow hat hlt1; have c1 := (hgrow.cell_far ⟨w.heap.size, 0, none⟩ (by simp; omega) (Ne.symm hn2)).trans ((HB.out.alloc (obRef xi xq)).cell 0); have f1 := (hgrow.frozen_far ⟨w.heap.size, 0, none⟩ (by simp; omega) (Ne.symm hn2)).trans ((HB.out.alloc (obRef xi xq)).frozen 0); have HOWN := Lib.hid hown; have HG := Lib.hid hgrow; have HAT := Lib.hid hat; clear hown hgrow hat)
    have hka : KeepM (fun k => k < W.heap.size ∧ k ≠ w.heap.size ∧ k ∉ foot (.slice A' pre.length cc)) W (w1.setCell ⟨w.heap.size, 0, none⟩ (.slice (some ⟨gg, 0, none⟩) (pre.length + 1) cap)) :=
      (((KeepM.alloc W _).less (fun k hk => hk.1)).trans (grown_keepM HG.out (fun k hk => ⟨by simp; omega, hk.2.2⟩))).trans ((KeepM.setCell _ ⟨w.heap.size, 0, none⟩ _).less (fun k hk => hk.2.1))
    have hgg : gg ∈ foot (.slice A' pre.length cc) ∨ gg = W.heap.size + 1 := HAT.out.imp (fun h => row_mem h) id
    have hgw : gg ≠ w.heap.size := by
      rcases hgg with h | h
      · have := HF.out _ h; omega
      · omega
    refine ⟨⟨⟨hka.size, hka.block _ ⟨by omega, by omega, fun h => by have := HF.out _ h; omega⟩, hka.block _ ⟨by omega, by omega, fun h => by have := HF.out _ h; omega⟩⟩, fun hs => hs.kinds (fun k t cs ht hb => ?_)⟩, (fun k => k < w.heap.size + 1 ∨ k ∈ foot (.slice (some ⟨gg, 0, none⟩) (pre.length + 1) cap)), ?_, ?_, some ⟨gg, 0, none⟩, cap, ?_, ?_, ?_, ?_, ?_⟩
    · refine hb.same (hka.block _ ⟨hb.lt, ?_, ?_⟩)
      · rintro rfl
        rcases ht with rfl | rfl | rfl | rfl <;> exact absurd rfl (Blk.ty hb HB.out (by decide))
      · exact HR.out.ty hb (by rcases ht with rfl | rfl | rfl | rfl <;> decide)
    · intro k hk
      rcases hk with h | h
      · exact .inl ((HM.out k).2 (.inl (by omega)))
      · simp [foot_some] at h
        subst h
        rcases hgg with h | h
        · exact .inl ((HM.out _).2 (.inr h))
        · right; omega
    · exact hka.less (fun k hk => ⟨hk.2, fun e => hk.1 ((HM.out k).2 (.inl (by omega))), fun h => hk.1 ((HM.out k).2 (.inr h))⟩)
    · have hb1 : Blk w1 w.heap.size 27 #[.slice A' pre.length cc] := (HB.out.alloc (obRef xi xq)).same (HG.out.block _ (by simp; omega) (Ne.symm hn2))
      simpa using hb1.set_ 0 (.slice (some ⟨gg, 0, none⟩) (pre.length + 1) cap)
    · rw [refCells_snoc, List.length_append]
      exact HOWN.out.far (by simpa [foot_some] using fun e => hgw e.symm) _
    · rw [List.length_append]; exact fun k => by simp [foot_some]
    · rw [List.length_append]
      intro k hk
      simp [foot_some] at hk
      subst hk
      rcases hgg with h | h
      · have := HF.out _ h; omega
      · omega
    · refine ⟨hka.os.trans HC.out.os, hka.tape.trans HC.out.tape, hka.output.trans HC.out.output, Nat.le_trans HC.out.size hka.size, fun k hk1 hk2 => (hka.block k ⟨by omega, by simpa using hk2, fun h => by have := HF.out _ h; omega⟩).trans (HC.out.block k (by omega) hk2)⟩
  case done =>
    rintro D xs M W hDW hMD hM0 rfl ⟨A', cc, hB, hr, hM, hF, hC⟩ hK
    have c0 := hB.cell 0
    gi_wp2
    have z1 := hC.size
    refine ⟨by simp, .inl ⟨_, _, rfl, run_takeDeferred hK, ?_⟩⟩
    have hkD : KeepM (fun k => k ≠ D) W (W.putObj D (.deferred none)) := KeepM.putObj W D _
    have hDF : D ∉ foot (.slice A' xs.length cc) := fun h => hMD ((hM D).2 (.inr h))
    refine ⟨_, results_tmp rfl _ _ _, _, rfl, hr.same (fun k hk => hkD.block _ (fun e => hDF (e ▸ hk))), fun k hk => by have := hF k hk; omega, ?_⟩
    exact ⟨hkD.os.trans (hC.os.trans hC0.os), hkD.tape.trans (hC.tape.trans hC0.tape), hkD.output.trans (hC.output.trans hC0.output), Nat.le_trans (Nat.le_trans hC0.size hC.size) hkD.size, fun k hk1 hk2 => (hkD.block k (by omega)).trans ((hC.block k (by omega) (by simp; omega)).trans (hC0.block k hk1 hk2))⟩
  case stop =>
    rintro D c pre M W _ _ _ _ h
    exact h.elim
set_option maxRecDepth 100000 in
/-- Chain: the refs of a domain's chain. -/
theorem Chain_any {w : World} {c : Nat} {S : List Nat} {t : Tab Dm} (h : DomAt w c S t) {i q : Int} {L : List (Int × Int)} (hU : Up t.par i q L) (hfit : Fit t.par) (hL : L.length ≤ 100000) (i0 : -9223372036854775808 ≤ i) (i1 : i ≤ 9223372036854775807) :
    Calls Try.prog 28 #[ptr c, .agg #[.int .i64 i, .int .u64 q]] w fun e w' => ∃ V, e = .returned V ∧ Row w' 34 2 V L.length (refCells L) ∧ (∀ k ∈ foot V, w.heap.size ≤ k) ∧ Chg [] w w' := by
  have HC : ∀ W rB dB, Blk W rB 34 #[.int .i64 i, .int .u64 q] → Blk W dB 25 #[ptr c] → Chg [] w W → Calls Try.prog 53 #[.func (.func 76) #[] #[ptr rB, ptr dB]] W fun e w' => ∃ V, e = .returned V ∧ Row w' 34 2 V L.length (refCells L) ∧ (∀ k ∈ foot V, W.heap.size ≤ k) ∧ Chg [] W w' := fun W rB dB hr hd hc => by
    have HA := (callsIn_wide (n := 8)).1 (appendSeq_in 8 (by omega) hr hd ⟨S, t, h.quiet hc, rfl⟩ hfit hU hL i0 i1)
    have HH := Lib.hid HA
    clear HA hr hd hc
    go_enter Try.func53, Try.ntmps53
    go_wp2_with (go_at_call 75; refine HH.out.mono ?_; rintro e w' ⟨V, rfl, hr, hf, hc⟩)
    go_ret
    exact ⟨V, rfl, hr, hf, hc⟩
  have HH := Lib.hid HC
  clear HC h
  go_enter Try.func28, Try.ntmps28
  go_wp2_with (first
    | (go_at_call 54; refine (chain_any _ _ _ _).mono ?_; rintro e w' ⟨rfl, rfl⟩)
    | (go_at_call 53; refine (HH.out _ _ _ (Blk.at' _ 34 _ (by simp)) ((Blk.at' _ 25 _ (by simp)).alloc _) (((Chg.refl [] w).alloc _ |>.alloc _).alloc _)).mono ?_; rintro e w' ⟨V, rfl, hr, hf, hc⟩))
  go_ret
  exact ⟨V, rfl, hr, fun k hk => by have := hf k hk; simp at this; omega, (((Chg.refl [] w).alloc _ |>.alloc _).alloc _).then hc⟩
end Go.Proofs
end
section
namespace Go.Proofs
open Go.RowKit
set_option linter.unusedVariables false
set_option linter.unusedSimpArgs false

/-- A domain whose numbers may be. -/
structure Dm.Ok (x : Dm) : Prop where
  gs : 0 ≤ x.gs ∧ x.gs ≤ 64
  cgs : 0 ≤ x.cgs ∧ x.cgs ≤ 64
  own : 0 ≤ x.own ∧ x.own ≤ 64
  live : 0 ≤ x.live ∧ x.live ≤ 64
  ch : 0 ≤ x.ch ∧ x.ch ≤ 64
  cpu : 0 ≤ x.cpu ∧ x.cpu ≤ 4294967296
  car : 0 ≤ x.car ∧ x.car ≤ x.cpu
  used : 0 ≤ x.used ∧ x.used < 18446744073709551616
theorem Dm.Ok.zero : dm0.Ok := by constructor <;> simp [dm0]
theorem Dm.Ok.sm {x : Dm} (h : x.Ok) : x.Sm := by
  obtain ⟨a, b, c, d, e, f, g, i⟩ := h
  constructor <;> omega
/-- Each domain's numbers may be, and each parent's place. -/
structure Tab.Oks (t : Tab Dm) : Prop where
  ok : ∀ i q, (t.at_ i q).Ok
  fit : Fit t.par
def settleT (more : Int) (i q : Int) (L : List (Int × Int)) (t : Tab Dm) : Tab Dm := updAll (fun x => { x with live := x.live + more }) L (t.upd i q (fun x => { x with own := x.own + more }))
def joinE (t : Tab Dm) (i q : Int) : Int := if t.has i q then (if (t.at_ i q).gs - (t.at_ i q).cgs - (t.at_ i q).own = 0 then 15 else 0) else 11
def leaveE (t : Tab Dm) (i q : Int) : Int := if t.has i q then (if (t.at_ i q).own = 0 then 5 else 0) else 11
end Go.Proofs
end
section
namespace Go.Proofs
open Go.RowKit
set_option linter.unusedVariables false
set_option linter.unusedSimpArgs false

set_option maxRecDepth 100000 in
theorem Use_any {w : World} {c : Nat} {S : List Nat} {t : Tab Dm} (h : DomAt w c S t) (hk : t.Oks) {i q : Int} (i0 : -9223372036854775808 ≤ i) (i1 : i ≤ 9223372036854775807) (n : Int) (n0 : 0 ≤ n) (n1 : n < 18446744073709551616) :
    Calls Try.prog 12 #[ptr c, .agg #[.int .i64 i, .int .u64 q], .int .u64 n] w fun e w' => e = .returned (.int .i64 (staleE t i q)) ∧ DomAt w' c S (t.upd i q (fun x => { x with used := addS x.used n })) ∧ Chg S w w' := by
  have HA := Lib.hid (fun W M (hc : Chg [] w W) (hM : Blk W M 22 #[.int .u64 n]) => change_any (h.quiet hc) i q i0 i1 (use_used W.heap.size M n n0 n1) (Nat.le_refl _) (fun W' hW' => hM.chg hW' (by simp)) (fun _ => (hk.ok i q).used))
  clear h hk
  obtain ⟨e0, he⟩ : ∃ e0, e0 = staleE t i q := ⟨_, rfl⟩
  rw [← he] at HA ⊢
  clear he
  go_enter Try.func12, Try.ntmps12
  go_wp2_with (go_at_call 37; refine (HA.out _ (w.heap.size + 1) (((Chg.refl _ _).alloc _).alloc _) (Blk.at' _ 22 _ (by simp))).mono ?_; rintro e w1 ⟨rfl, hd, hc⟩; have HD := Lib.hid hd; have HC := Lib.hid hc; clear hd hc)
  go_ret
  exact ⟨rfl, HD.out, (((Chg.refl [] w).alloc _).alloc _).any.trans HC.out (fun k hk => .inl hk)⟩
set_option maxRecDepth 100000 in
theorem Clear_any {w : World} {c : Nat} {S : List Nat} {t : Tab Dm} (h : DomAt w c S t) {i q : Int} (i0 : -9223372036854775808 ≤ i) (i1 : i ≤ 9223372036854775807) :
    Calls Try.prog 41 #[ptr c, .agg #[.int .i64 i, .int .u64 q]] w fun e w' => e = .returned (.int .i64 (staleE t i q)) ∧ DomAt w' c S (t.upd i q (fun x => { x with used := 0 })) ∧ Chg S w w' := by
  have HA := Lib.hid (fun W (hc : Chg [] w W) => change_any (h.quiet hc) i q i0 i1 (clear_used W.heap.size) (Nat.le_refl _) (fun W' hW' => trivial) (fun _ => trivial))
  clear h
  obtain ⟨e0, he⟩ : ∃ e0, e0 = staleE t i q := ⟨_, rfl⟩
  rw [← he] at HA ⊢
  clear he
  go_enter Try.func41, Try.ntmps41
  go_wp2_with (go_at_call 37; refine (HA.out _ (((Chg.refl _ _).alloc _))).mono ?_; rintro e w1 ⟨rfl, hd, hc⟩; have HD := Lib.hid hd; have HC := Lib.hid hc; clear hd hc)
  go_ret
  exact ⟨rfl, HD.out, ((Chg.refl [] w).alloc _).any.trans HC.out (fun k hk => .inl hk)⟩
set_option maxRecDepth 100000 in
theorem Root_any {w : World} {c : Nat} {S : List Nat} {t : Tab Dm} (h : DomAt w c S t) :
    Calls Try.prog 33 #[ptr c] w fun e w' => e = .returned (.agg #[.int .i64 (t.atIdx 0), .int .u64 (t.atGen 0)]) ∧ Chg [] w w' := by
  obtain ⟨g, hB, hT, hW⟩ := h
  have HP := Lib.hid (fun W (hc : Chg [] w W) => places_any (hB.chg hc (by simp)))
  have HA := Lib.hid (fun W (hc : Chg [] w W) => at_C (hT.quiet hc) hW 0 (by omega) (by omega))
  obtain ⟨a, ha⟩ : ∃ a, a = t.atIdx 0 := ⟨_, rfl⟩
  obtain ⟨b, hb⟩ : ∃ b, b = t.atGen 0 := ⟨_, rfl⟩
  obtain ⟨d, hd⟩ : ∃ d, d = t.atIs 0 := ⟨_, rfl⟩
  rw [← ha, ← hb, ← hd] at HA
  rw [← ha, ← hb]
  clear ha hb hd hB hT hW
  go_enter Try.func33, Try.ntmps33
  go_wp2_with (first
    | (go_at_call 50; refine (HP.out _ ((Chg.refl _ _).alloc _)).mono ?_; rintro e w1 ⟨rfl, rfl⟩)
    | (go_at_call 60; refine (HA.out _ ((Chg.refl _ _).alloc _)).mono ?_; rintro e w1 ⟨rfl, hc⟩; have hR1 := ((Blk.new w 34 #[.int .i64 0, .int .u64 0]).chg hc (by simp)); have r0 := hR1.cell 0; have r1 := hR1.cell 1; have rf := hR1.frozen; have lr := hR1.lt; have HC := Lib.hid (((Chg.refl [] w).alloc _).then hc); clear hc hR1))
  refine bodyPost_ret (v := .agg #[.int .i64 a, .int .u64 b]) ?_ rfl ⟨rfl, ?_⟩
  · simp [results, Try.results33, go_sem, r0, r1, lr]
  · repeat' (first | with_reducible exact HC.out | with_reducible apply Chg.alloc | with_reducible apply Chg.setCell | (with_reducible refine Or.inr ?_; dsimp only; omega))
end Go.Proofs
end
section
namespace Go.Proofs
open Go.RowKit Go.Shelf
set_option linter.unusedVariables false
set_option linter.unusedSimpArgs false

theorem snoc_rec {α : Type} {P : List α → Prop} (h0 : P []) (h1 : ∀ l x, P l → P (l ++ [x])) (l : List α) : P l := by
  suffices h : ∀ n (l : List α), l.length = n → P l from h _ l rfl
  intro n
  induction n with
  | zero => intro l hl; rw [List.length_eq_zero_iff.1 hl]; exact h0
  | succ n ih =>
    intro l hl
    have hne : l ≠ [] := fun e => by rw [e] at hl; cases hl
    rw [← List.dropLast_concat_getLast hne]
    exact h1 _ _ (ih _ (by rw [List.length_dropLast]; omega))
/-! ### The least of what is told -/
def minO : Option Int → Int → Option Int
  | none, m => some m
  | some n, m => if m < n then some m else some n
def minF {α : Type} (tell : α → Option Int) (l : List α) : Option Int := l.foldl (fun o x => match tell x with | some m => minO o m | none => o) none
theorem minF_nil {α : Type} (tell : α → Option Int) : minF tell [] = none := rfl
theorem minF_some {α : Type} {tell : α → Option Int} {l : List α} {x : α} {m : Int} (h : tell x = some m) : minF tell (l ++ [x]) = minO (minF tell l) m := by
  unfold minF; rw [List.foldl_append]; simp only [List.foldl_cons, List.foldl_nil, h]
theorem minF_none {α : Type} {tell : α → Option Int} {l : List α} {x : α} (h : tell x = none) : minF tell (l ++ [x]) = minF tell l := by
  unfold minF; rw [List.foldl_append]; simp only [List.foldl_cons, List.foldl_nil, h]
/-- What is less than each number that is told, and is told itself, is the least one. -/
theorem minF_iff {α : Type} (tell : α → Option Int) : ∀ (l : List α) (n : Int), minF tell l = some n ↔ (∃ x ∈ l, tell x = some n) ∧ ∀ x ∈ l, ∀ m, tell x = some m → n ≤ m := by
  suffices h : ∀ (l : List α), (minF tell l = none ↔ ∀ x ∈ l, tell x = none) ∧ ∀ n, minF tell l = some n → (∃ x ∈ l, tell x = some n) ∧ ∀ x ∈ l, ∀ m, tell x = some m → n ≤ m by
    intro l n
    refine ⟨(h l).2 n, ?_⟩
    rintro ⟨⟨x, hx, hn⟩, hle⟩
    cases hm : minF tell l with
    | none => rw [(h l).1.1 hm x hx] at hn; cases hn
    | some m =>
      obtain ⟨⟨y, hy, hym⟩, hle2⟩ := (h l).2 m hm
      have := hle y hy m hym
      have := hle2 x hx n hn
      congr 1; omega
  refine snoc_rec ?_ ?_
  · exact ⟨⟨fun _ x hx => (by cases hx), fun _ => rfl⟩, fun n hn => by cases hn⟩
  · intro l x ih
    cases ht : tell x with
    | none =>
      rw [minF_none ht]
      refine ⟨⟨fun h y hy => ?_, fun h => ih.1.2 (fun y hy => h y (List.mem_append_left _ hy))⟩, fun n hn => ?_⟩
      · rcases List.mem_append.1 hy with hy | hy
        · exact ih.1.1 h y hy
        · rw [List.mem_singleton] at hy; rw [hy]; exact ht
      · obtain ⟨⟨y, hy, e⟩, h2⟩ := ih.2 n hn
        refine ⟨⟨y, List.mem_append_left _ hy, e⟩, fun z hz m hm => ?_⟩
        rcases List.mem_append.1 hz with hz | hz
        · exact h2 z hz m hm
        · rw [List.mem_singleton] at hz; rw [hz, ht] at hm; cases hm
    | some v =>
      rw [minF_some ht]
      refine ⟨⟨fun h => ?_, fun h => ?_⟩, fun n hn => ?_⟩
      · unfold minO at h; split at h
        · cases h
        · split at h <;> cases h
      · have := h x (List.mem_append_right _ (List.mem_singleton.2 rfl)); rw [ht] at this; cases this
      · cases hm : minF tell l with
        | none =>
          rw [hm] at hn
          cases hn
          refine ⟨⟨x, List.mem_append_right _ (List.mem_singleton.2 rfl), ht⟩, fun z hz m hzm => ?_⟩
          rcases List.mem_append.1 hz with hz | hz
          · rw [ih.1.1 hm z hz] at hzm; cases hzm
          · rw [List.mem_singleton] at hz; rw [hz, ht] at hzm; cases hzm; omega
        | some m =>
          rw [hm] at hn
          obtain ⟨⟨y, hy, e⟩, h2⟩ := ih.2 m hm
          unfold minO at hn
          by_cases hv : v < m
          · simp only [if_pos hv] at hn
            cases hn
            refine ⟨⟨x, List.mem_append_right _ (List.mem_singleton.2 rfl), ht⟩, fun z hz k hzk => ?_⟩
            rcases List.mem_append.1 hz with hz | hz
            · have := h2 z hz k hzk; omega
            · rw [List.mem_singleton] at hz; rw [hz, ht] at hzk; cases hzk; omega
          · simp only [if_neg hv] at hn
            cases hn
            refine ⟨⟨y, List.mem_append_left _ hy, e⟩, fun z hz k hzk => ?_⟩
            rcases List.mem_append.1 hz with hz | hz
            · exact h2 z hz k hzk
            · rw [List.mem_singleton] at hz; rw [hz, ht] at hzk; cases hzk; omega
theorem minF_no {α : Type} {tell : α → Option Int} {l : List α} (h : ∀ x ∈ l, tell x = none) : minF tell l = none := by
  cases hm : minF tell l with
  | none => rfl
  | some n => obtain ⟨⟨x, hx, e⟩, _⟩ := (minF_iff tell l n).1 hm; rw [h x hx] at e; cases e
theorem minF_one {α : Type} {tell : α → Option Int} {l : List α} {x : α} {n : Int} (hx : x ∈ l) (h : tell x = some n) : ∃ m, minF tell l = some m ∧ m ≤ n := by
  cases hm : minF tell l with
  | none =>
    exfalso
    have : ∀ l : List α, minF tell l = none → ∀ x ∈ l, tell x = none := by
      refine snoc_rec ?_ ?_
      · intro _ x hx; cases hx
      · intro l y ih
        intro hn z hz
        cases ht : tell y with
        | none =>
          rw [minF_none ht] at hn
          rcases List.mem_append.1 hz with hz | hz
          · exact ih hn z hz
          · rw [List.mem_singleton] at hz; rw [hz]; exact ht
        | some v =>
          rw [minF_some ht] at hn
          unfold minO at hn; split at hn
          · cases hn
          · split at hn <;> cases hn
    rw [this l hm x hx] at h; cases h
  | some m => exact ⟨m, rfl, ((minF_iff tell l m).1 hm).2 x hx n h⟩

/-- What is left of a domain. -/
def Dm.left (x : Dm) : Int := subS x.cpu x.used
theorem Dm.left_bd {x : Dm} (h : x.Ok) : 0 ≤ x.left ∧ x.left ≤ 4294967296 := by
  unfold Dm.left subS; have := h.cpu; have := h.used; split <;> omega
/-- What is told of one of a chain. -/
def tellL (t : Tab Dm) : Int × Int → Option Int := fun x => if t.has x.1 x.2 = true then some (t.at_ x.1 x.2).left else none
/-- What is left of a chain. -/
def leftT (t : Tab Dm) (L : List (Int × Int)) : Int := (minF (tellL t) L).getD 0

set_option maxRecDepth 100000 in
theorem left_any (w : World) (x : Dm) (hx : x.Sm) :
    Calls Try.prog 44 #[x.val] w fun e w' => e = .returned (.int .u64 x.left) ∧ Chg [] w w' := by
  unfold Dm.left
  have hS := fun W => (num_subS x.cpu x.used hx.cpu.1 hx.used.1 hx.cpu.2 hx.used.2 W).mono (fun e w' h => (⟨h.1, h.2.symm⟩ : e = .returned (.int .u64 (subS x.cpu x.used)) ∧ w' = W))
  clear hx
  go_enter Try.func44, Try.ntmps44
  go_wp2_with (go_at_call 70; refine (hS _).mono ?_; rintro e w1 ⟨rfl, rfl⟩)
  go_ret
  exact ⟨rfl, (Chg.refl _ _).alloc _⟩

set_option maxRecDepth 100000 in
/-- Left's closure. -/
theorem tell_any {w : World} {c B : Nat} {S : List Nat} {t : Tab Dm} (h : DomAt w c S t) (hk : t.Oks) (hB : Blk w B 25 #[ptr c]) {i q : Int} (i0 : -9223372036854775808 ≤ i) (i1 : i ≤ 9223372036854775807) :
    Calls Try.prog 49 #[.agg #[.int .i64 i, .int .u64 q], ptr B] w fun e w' => e = .returned (.tuple #[.int .u64 (t.at_ i q).left, .bool (t.has i q)]) ∧ Chg [] w w' := by
  have HG := Lib.hid (fun W (hW : Chg [] w W) => Get_any (h.quiet hW) i q i0 i1)
  have HL := Lib.hid (fun W => left_any W (t.at_ i q) (hk.ok i q).sm)
  obtain ⟨e0, he⟩ : ∃ e0, e0 = staleE t i q := ⟨_, rfl⟩
  have he2 : (e0 == 0) = t.has i q := by rw [he]; unfold staleE; cases t.has i q <;> rfl
  obtain ⟨x, hx⟩ : ∃ x, x = t.at_ i q := ⟨_, rfl⟩
  obtain ⟨y, hy⟩ : ∃ y, y = x.left := ⟨_, rfl⟩
  rw [← hx, ← he] at HG
  rw [← hx, ← hy] at HL ⊢
  have b0 := hB.cell 0
  have lb := hB.lt
  clear h hk he hx hy hB
  go_enter Try.func49, Try.ntmps49
  go_wp2_with (first
    | (go_at_call 27; refine (HG.out _ ((Chg.refl _ _).alloc _)).mono ?_; rintro e w1 ⟨rfl, hc⟩; have HC := Lib.hid (((Chg.refl [] w).alloc _).then hc); have z1 := hc.size; simp only [World.size_alloc] at z1; clear hc)
    | (go_at_call 44; refine (HL.out _).mono ?_; rintro e w2 ⟨rfl, hc⟩; have HC2 := Lib.hid ((HC.out.alloc (obX x)).then hc); clear hc))
  go_ret2
  rw [← he2]
  exact ⟨rfl, HC2.out⟩
end Go.Proofs
end
section
namespace Go.Proofs
open Go.RowKit Go.Shelf
set_option linter.unusedVariables false
set_option linter.unusedSimpArgs false

theorem minO_lt {n m : Int} (h : m < n) : minO (some n) m = some m := if_pos h
theorem minO_ge {n m : Int} (h : ¬ m < n) : minO (some n) m = some n := if_neg h
/-- A number that is told, or 0; and is one? -/
abbrev oInt (o : Option Int) : Int := o.getD 0
theorem take_more {α : Type} {l : List α} {j : Nat} {x : α} (h : l[j]? = some x) : l.take (j + 1) = l.take j ++ [x] := by
  obtain ⟨hlt, rfl⟩ := List.getElem?_eq_some_iff.1 h
  rw [List.take_succ_eq_append_getElem hlt]

set_option maxHeartbeats 3200000 in
set_option maxRecDepth 100000 in
theorem least_left {w : World} {c B : Nat} {S : List Nat} {t : Tab Dm} (h : DomAt w c S t) (hk : t.Oks) (hB : Blk w B 25 #[ptr c]) {L : List (Int × Int)} {A : Option Addr} {cc : Nat}
    (hR : Row w 34 2 (.slice A L.length cc) L.length (refCells L)) (hL : L.length ≤ 100000) (hI : ∀ x ∈ L, -9223372036854775808 ≤ x.1 ∧ x.1 ≤ 9223372036854775807) :
    Calls Try.prog 48 #[.slice A L.length cc, .func (.func 49) #[] #[ptr B]] w fun e w' => e = .returned (.tuple #[.int .u64 (oInt (minF (tellL t) L)), .bool (minF (tellL t) L).isSome]) ∧ Chg [] w w' := by
  have HT := Lib.hid (fun W (hW : Chg [] w W) (x : Int × Int) (hx : x ∈ L) => tell_any (h.quiet hW) hk (hB.chg hW (by simp)) (q := x.2) (hI x hx).1 (hI x hx).2)
  have HO := Lib.hid (fun i q => Dm.left_bd (hk.ok i q))
  obtain ⟨n, hn⟩ : ∃ n, n = L.length := ⟨_, rfl⟩
  rw [← hn] at hR hL ⊢
  have HN := Lib.hid hn
  have HR := Lib.hid hR
  clear h hk hB hR hn hI
  go_enter Try.func48, Try.ntmps48
  go_wp2
  go_loopg [6, 7, 14] n (fun gh v6 v7 iv wr => ∃ (j : Nat) (o : Option Int), j + gh = n ∧ v6 = .int .u64 (oInt o) ∧ v7 = .bool o.isSome ∧ iv = .int .i64 j ∧ Hid (Chg [] w wr ∧ o = minF (tellL t) (L.take j)))
  case atStart => exact ⟨0, none, by omega, rfl, rfl, rfl, Lib.hid ⟨Chg.refl _ _, by rw [List.take_zero]; rfl⟩⟩
  case round =>
    obtain ⟨j, o, hj, rfl, rfl, rfl, HH⟩ := hrel
    obtain ⟨hc, ho⟩ := HH.out
    by_cases hlt : j < n
    · have j0 : (0 : Int) ≤ (j : Int) := by omega
      have j1 : (j : Int) < (n : Int) := by omega
      obtain ⟨x, hx⟩ : ∃ x, L[j]? = some x := ⟨_, List.getElem?_eq_getElem (by rw [← HN.out]; exact hlt)⟩
      obtain ⟨gr, cr, hv, _, _, hcell, _, lgr2⟩ := HR.out.form (by omega)
      simp only [Value.slice.injEq] at hv
      obtain ⟨rfl, h91, h92⟩ := hv
      clear h91 h92
      obtain ⟨x0, x1⟩ := refCells_at hx
      have y0 := (hc.cell (p := ⟨gr, j * 2, none⟩) lgr2 (by simp)).trans (hcell _ _ x0)
      have y1 := (hc.cell (p := ⟨gr, j * 2 + 1, none⟩) lgr2 (by simp)).trans (hcell _ _ x1)
      have HTX := Lib.hid (fun W (hW : Chg [] wr W) => HT.out W (hc.then hW) x (List.mem_of_getElem? hx))
      have HTK := Lib.hid (take_more hx)
      obtain ⟨xi, xq⟩ := x
      simp only at y0 y1 HTX
      have htl : tellL t (xi, xq) = if t.has xi xq = true then some (t.at_ xi xq).left else none := rfl
      have hm0 := HO.out xi xq
      obtain ⟨m0, hm⟩ : ∃ m0, m0 = (t.at_ xi xq).left := ⟨_, rfl⟩
      obtain ⟨bh, hb⟩ : ∃ bh, bh = t.has xi xq := ⟨_, rfl⟩
      rw [← hm, ← hb] at HTX htl
      rw [← hm] at hm0
      have HTL := Lib.hid htl
      have HCW := Lib.hid hc
      have HOO := Lib.hid ho
      clear hx hcell x0 x1 hc HH htl hm hb ho
      cases bh with
      | false =>
        have HY := Lib.hid (show o = minF (tellL t) (L.take (j + 1)) by rw [HTK.out, minF_none (by rw [HTL.out]; rfl)]; exact HOO.out)
        go_wp2_with (first | (go_at_call 49; refine (HTX.out _ ((Chg.refl _ _).alloc _)).mono ?_; rintro e w1 ⟨rfl, hc1⟩; have HC1 := Lib.hid (((Chg.refl [] wr).alloc _).then hc1); clear hc1))
        go_roundg (n - j - 1)
        case measure => omega
        case rel => exact ⟨j + 1, o, by omega, rfl, rfl, by go_num, Lib.hid ⟨HCW.out.then HC1.out, HY.out⟩⟩
      | true =>
        cases o with
        | none =>
          have HY := Lib.hid (show some m0 = minF (tellL t) (L.take (j + 1)) by rw [HTK.out, minF_some (m := m0) (by rw [HTL.out]; rfl), ← HOO.out]; rfl)
          go_wp2_with (first | (go_at_call 49; refine (HTX.out _ ((Chg.refl _ _).alloc _)).mono ?_; rintro e w1 ⟨rfl, hc1⟩; have HC1 := Lib.hid (((Chg.refl [] wr).alloc _).then hc1); clear hc1))
          go_roundg (n - j - 1)
          case measure => omega
          case rel => exact ⟨j + 1, some m0, by omega, rfl, rfl, by go_num, Lib.hid ⟨HCW.out.then HC1.out, HY.out⟩⟩
        | some n0 =>
          by_cases hmn : m0 < n0
          · have HY := Lib.hid (show some m0 = minF (tellL t) (L.take (j + 1)) by rw [HTK.out, minF_some (m := m0) (by rw [HTL.out]; rfl), ← HOO.out, minO_lt hmn])
            have e1 : decide (m0 < n0) = true := decide_eq_true hmn
            have e2 : oInt (some n0) = n0 := rfl
            simp only [e2]
            clear hmn
            go_wp2_with (first | (go_at_call 49; refine (HTX.out _ ((Chg.refl _ _).alloc _)).mono ?_; rintro e w1 ⟨rfl, hc1⟩; have HC1 := Lib.hid (((Chg.refl [] wr).alloc _).then hc1); clear hc1))
            go_roundg (n - j - 1)
            case measure => omega
            case rel => exact ⟨j + 1, some m0, by omega, rfl, rfl, by go_num, Lib.hid ⟨HCW.out.then HC1.out, HY.out⟩⟩
          · have HY := Lib.hid (show some n0 = minF (tellL t) (L.take (j + 1)) by rw [HTK.out, minF_some (m := m0) (by rw [HTL.out]; rfl), ← HOO.out, minO_ge hmn])
            have e1 : decide (m0 < n0) = false := decide_eq_false hmn
            have e2 : oInt (some n0) = n0 := rfl
            simp only [e2]
            clear hmn
            go_wp2_with (first | (go_at_call 49; refine (HTX.out _ ((Chg.refl _ _).alloc _)).mono ?_; rintro e w1 ⟨rfl, hc1⟩; have HC1 := Lib.hid (((Chg.refl [] wr).alloc _).then hc1); clear hc1))
            go_roundg (n - j - 1)
            case measure => omega
            case rel => exact ⟨j + 1, some n0, by omega, rfl, rfl, by go_num, Lib.hid ⟨HCW.out.then HC1.out, HY.out⟩⟩
    · obtain rfl : n = j := by omega
      have HY := Lib.hid (show o = minF (tellL t) L by rw [HN.out, List.take_length] at ho; exact ho)
      have HCW := Lib.hid hc
      clear hc HH ho
      go_wp2
      go_ret2
      exact ⟨by rw [← HY.out]; rfl, HCW.out⟩
end Go.Proofs
end
section
namespace Go.Proofs
open Go.RowKit Go.Shelf
set_option linter.unusedVariables false
set_option linter.unusedSimpArgs false

theorem Up.fit {f : PF} (hf : Fit f) {i q : Int} {L : List (Int × Int)} (h : Up f i q L) (i0 : -9223372036854775808 ≤ i) (i1 : i ≤ 9223372036854775807) : ∀ x ∈ L, -9223372036854775808 ≤ x.1 ∧ x.1 ≤ 9223372036854775807 := by
  induction h with
  | stop h => intro x hx; cases hx
  | step h hu ih =>
    intro x hx
    rcases List.mem_cons.1 hx with rfl | hx
    · exact ⟨i0, i1⟩
    · exact ih (hf _ _ _ _ h).1 (hf _ _ _ _ h).2 x hx
set_option maxRecDepth 100000 in
theorem Left_any {w : World} {c : Nat} {S : List Nat} {t : Tab Dm} (h : DomAt w c S t) (hk : t.Oks) {i q : Int} {L : List (Int × Int)} (hU : Up t.par i q L) (hL : L.length ≤ 1000) (i0 : -9223372036854775808 ≤ i) (i1 : i ≤ 9223372036854775807) :
    Calls Try.prog 22 #[ptr c, .agg #[.int .i64 i, .int .u64 q]] w fun e w' => e = .returned (.int .u64 (leftT t L)) ∧ Chg [] w w' := by
  have HC := Lib.hid (fun W (hW : Chg [] w W) => Chain_any (h.quiet hW) hU hk.fit (by omega) i0 i1)
  have HL := Lib.hid (fun W (hW : Chg [] w W) (hB : Blk W w.heap.size 25 #[ptr c]) A cc (hR : Row W 34 2 (.slice A L.length cc) L.length (refCells L)) => least_left (h.quiet hW) hk hB hR (by omega) (hU.fit hk.fit i0 i1))
  unfold leftT
  clear h hk hU hL
  go_enter Try.func22, Try.ntmps22
  go_wp2_with (first
    | (go_at_call 28; refine (HC.out _ (((Chg.refl _ _).alloc _).alloc _)).mono ?_; rintro e w1 ⟨V, rfl, hr, _, hc⟩; obtain ⟨A, cc, rfl, _⟩ := hr.val; have HR := Lib.hid hr; have HB := Lib.hid (((Blk.new w 25 #[ptr c]).alloc (obRef i q)).chg hc (by simp)); have HC1 := Lib.hid ((((Chg.refl [] w).alloc _).alloc _).then hc); clear hr hc)
    | (go_at_call 48; refine (HL.out _ HC1.out HB.out A cc HR.out).mono ?_; rintro e w2 ⟨rfl, hc⟩; have HC2 := Lib.hid (HC1.out.then hc); clear hc))
  go_ret
  exact ⟨rfl, HC2.out⟩
set_option maxRecDepth 100000 in
theorem Can_any {w : World} {c : Nat} {S : List Nat} {t : Tab Dm} (h : DomAt w c S t) (hk : t.Oks) {i q : Int} {L : List (Int × Int)} (hU : Up t.par i q L) (hL : L.length ≤ 1000) (i0 : -9223372036854775808 ≤ i) (i1 : i ≤ 9223372036854775807) :
    Calls Try.prog 23 #[ptr c, .agg #[.int .i64 i, .int .u64 q]] w fun e w' => e = .returned (.bool (decide (0 < leftT t L))) ∧ Chg [] w w' := by
  have HC := Lib.hid (fun W (hW : Chg [] w W) => Left_any (h.quiet hW) hk hU hL i0 i1)
  clear h hk hU hL
  obtain ⟨n, hn⟩ : ∃ n, n = leftT t L := ⟨_, rfl⟩
  rw [← hn] at HC ⊢
  clear hn
  go_enter Try.func23, Try.ntmps23
  go_wp2_with (go_at_call 22; refine (HC.out _ ((Chg.refl _ _).alloc _)).mono ?_; rintro e w1 ⟨rfl, hc⟩; have HC1 := Lib.hid (((Chg.refl [] w).alloc _).then hc); clear hc)
  go_ret
  exact ⟨rfl, HC1.out⟩
end Go.Proofs
end
section
namespace Go.Proofs
open Go.RowKit
set_option linter.unusedVariables false
set_option linter.unusedSimpArgs false

theorem put_has {t : Tab Dm} (hw : t.WF) (hf : t.frees ≠ 0) (x : Dm) {i q : Int} (hq : t.has i q = true) : (t.put dm0 x).has i q = true := by
  obtain ⟨s, hl, hg⟩ := has_iff.1 hq
  obtain ⟨i0, hs, hth⟩ := live_iff.1 hl
  obtain ⟨k, rfl⟩ := Int.eq_ofNat_of_zero_le i0
  simp only [Int.toNat_natCast] at hs
  refine has_iff.2 ⟨s, live_nat.2 ⟨?_, hth⟩, hg⟩
  rw [put_spots hw hf, if_neg]
  · exact hs
  · rintro rfl
    obtain ⟨_, _, _, _, _, _, hlv, _⟩ := hw.take_at (z := dm0) hf
    rw [hl] at hlv; cases hlv
theorem put_at_old {t : Tab Dm} (hw : t.WF) (hf : t.frees ≠ 0) (x : Dm) {i q : Int} (hq : t.has i q = true) : (t.put dm0 x).at_ i q = t.at_ i q := by
  obtain ⟨s, hl, hg⟩ := has_iff.1 hq
  have hl' : (t.put dm0 x).live i = some s := by
    obtain ⟨i0, hs, hth⟩ := live_iff.1 hl
    obtain ⟨k, rfl⟩ := Int.eq_ofNat_of_zero_le i0
    simp only [Int.toNat_natCast] at hs
    refine live_nat.2 ⟨?_, hth⟩
    rw [put_spots hw hf, if_neg]
    · exact hs
    · rintro rfl
      obtain ⟨_, _, _, _, _, _, hlv, _⟩ := hw.take_at (z := dm0) hf
      rw [hl] at hlv; cases hlv
  rw [at_yes hl hg, at_yes hl' hg]
theorem put_dom {w : World} {c : Nat} {S : List Nat} {t : Tab Dm} (h : DomAt w c S t) (hf : t.frees ≠ 0) (x : Dm) :
    ∃ g, Blk w c 110 #[ptr g] ∧ ∀ W, Chg [] w W → Calls Try.prog 58 #[ptr g, x.val] W fun e w' => e = .returned (.tuple #[.agg #[.int .i64 (t.takeAt : Nat), .int .u64 (t.genAt t.takeAt)], .int .i64 0]) ∧ DomTurns c S (t.put dm0 x) W w' := by
  obtain ⟨g, hB, hT, hW⟩ := h
  refine ⟨g, hB, fun W hc => ?_⟩
  refine (put_ok_C (hT.quiet hc) hW hf x).mono ?_
  rintro e w' ⟨he, S', h1, h2, h3⟩
  exact ⟨he, S', ⟨g, (hB.chg hc (by simp)).chg h3 (hT.not_dom hB), h1, hW.put hf x⟩, h2, h3⟩
theorem put_dom_full {w : World} {c : Nat} {S : List Nat} {t : Tab Dm} (h : DomAt w c S t) (hf : t.frees = 0) (x : Dm) :
    ∃ g, Blk w c 110 #[ptr g] ∧ ∀ W, Chg [] w W → Calls Try.prog 58 #[ptr g, x.val] W fun e w' => e = .returned (.tuple #[.agg #[.int .i64 0, .int .u64 0], .int .i64 3]) ∧ Chg [] W w' := by
  obtain ⟨g, hB, hT, hW⟩ := h
  exact ⟨g, hB, fun W hc => put_full_C (hT.quiet hc) hW hf x⟩
def kid (i q gs cpu per : Int) : Dm := ⟨i, q, gs, cpu, per, 0, 0, 0, 0, 0, 0⟩
def carveE (t : Tab Dm) (i q gs cpu per : Int) : Int :=
  if mayD gs cpu per then (if t.has i q then (if (t.at_ i q).gs - (t.at_ i q).cgs - (t.at_ i q).own < gs ∨ subS (t.at_ i q).cpu (t.at_ i q).car < cpu then 15 else (if t.frees = 0 then 3 else 0)) else 11) else 2
def carveT (t : Tab Dm) (i q gs cpu per : Int) : Tab Dm := (t.put dm0 (kid i q gs cpu per)).upd i q (fun x => { x with cgs := x.cgs + gs, car := x.car + cpu, ch := x.ch + 1 })
/-- What a Carve leaves: an error, and nothing turned; or a child. -/
def CvOut (c : Nat) (S : List Nat) (t : Tab Dm) (i q gs cpu per : Int) (w : World) (e : Ending) (w' : World) : Prop :=
  (carveE t i q gs cpu per ≠ 0 ∧ e = .returned (.tuple #[.agg #[.int .i64 0, .int .u64 0], .int .i64 (carveE t i q gs cpu per)]) ∧ DomAt w' c S t ∧ Chg [] w w') ∨
  (carveE t i q gs cpu per = 0 ∧ e = .returned (.tuple #[.agg #[.int .i64 (t.takeAt : Nat), .int .u64 (t.genAt t.takeAt)], .int .i64 0]) ∧ DomTurns c S (carveT t i q gs cpu per) w w')
/-- The boxes of a Carve. -/
def CvBoxes (b : Nat) (i q gs cpu : Int) (w : World) : Prop := Blk w b 34 #[.int .i64 i, .int .u64 q] ∧ Blk w (b + 1) 3 #[.int .i64 gs] ∧ Blk w (b + 1 + 1) 22 #[.int .u64 cpu] ∧ Blk w (b + 1 + 1 + 1) 34 #[.int .i64 0, .int .u64 0]
theorem CvBoxes.chg {b : Nat} {i q gs cpu : Int} {w w' : World} (h : CvBoxes b i q gs cpu w) (hc : Chg [] w w') : CvBoxes b i q gs cpu w' := ⟨h.1.chg hc (by simp), h.2.1.chg hc (by simp), h.2.2.1.chg hc (by simp), h.2.2.2.chg hc (by simp)⟩
theorem CvBoxes.alloc {b : Nat} {i q gs cpu : Int} {w : World} (h : CvBoxes b i q gs cpu w) (o : Obj) : CvBoxes b i q gs cpu (w.alloc o) := h.chg ((Chg.refl _ _).alloc o)
theorem CvBoxes.drew {b : Nat} {i q gs cpu : Int} {w : World} (h : CvBoxes b i q gs cpu w) : CvBoxes b i q gs cpu w.drew := h.chg ((Chg.refl _ _).drew)
theorem carve_boxes {w w1 : World} {i q gs cpu : Int} (hc : Chg [] ((((w.alloc (obRef i q)).alloc (.cells #[.int .i64 gs] 3)).alloc (.cells #[.int .u64 cpu] 22)).alloc (obRef 0 0)) w1) : CvBoxes w.heap.size i q gs cpu w1 :=
  CvBoxes.chg (w := (((w.alloc (obRef i q)).alloc (.cells #[.int .i64 gs] 3)).alloc (.cells #[.int .u64 cpu] 22)).alloc (obRef 0 0))
    ⟨(((Blk.new w 34 _).alloc _).alloc _).alloc _, ((Blk.at' _ 3 _ (by simp)).alloc _).alloc _, (Blk.at' _ 22 _ (by simp)).alloc _, Blk.at' _ 34 _ (by simp)⟩ hc
theorem carve_tell {b : Nat} {i q gs cpu : Int} {w : World} (h : CvBoxes b i q gs cpu w) : b + 1 + 1 + 1 < w.heap.size ∧ w.cell? ⟨b, 0, none⟩ = some (.int .i64 i) ∧ w.cell? ⟨b, 1, none⟩ = some (.int .u64 q) ∧ w.cell? ⟨b + 1, 0, none⟩ = some (.int .i64 gs) ∧ w.cell? ⟨b + 1 + 1, 0, none⟩ = some (.int .u64 cpu) ∧ w.cell? ⟨b + 1 + 1 + 1, 0, none⟩ = some (.int .i64 0) ∧ w.cell? ⟨b + 1 + 1 + 1, 1, none⟩ = some (.int .u64 0) ∧ ∀ o, w.frozen? ⟨b + 1 + 1 + 1, o, none⟩ = false :=
  ⟨h.2.2.2.lt, h.1.cell 0, h.1.cell 1, h.2.1.cell 0, h.2.2.1.cell 0, h.2.2.2.cell 0, h.2.2.2.cell 1, h.2.2.2.frozen⟩
theorem CvOut.no {c : Nat} {S : List Nat} {t : Tab Dm} {i q gs cpu per e0 : Int} {w w' : World} (he : e0 ≠ 0) (h : carveE t i q gs cpu per = e0) (hD : DomAt w c S t) (hc : Chg [] w w') : CvOut c S t i q gs cpu per w (.returned (.tuple #[.agg #[.int .i64 0, .int .u64 0], .int .i64 e0])) w' :=
  .inl ⟨by rw [h]; exact he, by rw [h], hD.quiet hc, hc⟩
set_option maxRecDepth 100000 in
set_option maxHeartbeats 3200000 in
theorem Carve_no {w : World} {c : Nat} {S : List Nat} {t : Tab Dm} (h : DomAt w c S t) (hk : t.Oks) {i q gs cpu per : Int} (i0 : -9223372036854775808 ≤ i) (i1 : i ≤ 9223372036854775807) (hc0 : 0 ≤ cpu) (hp0 : 0 ≤ per)
    (he : carveE t i q gs cpu per = 2 ∨ carveE t i q gs cpu per = 11 ∨ carveE t i q gs cpu per = 15) :
    Calls Try.prog 34 #[ptr c, .agg #[.int .i64 i, .int .u64 q], .int .i64 gs, .int .u64 cpu, .int .u64 per] w (CvOut c S t i q gs cpu per w) := by
  have HN := Lib.hid (fun W (hW : Chg [] w W) => none_any (h.quiet hW))
  have HM := Lib.hid (fun W => mayD_any 56 (.inl rfl) gs cpu per hc0 hp0 W)
  have HG := Lib.hid (fun W (hW : Chg [] w W) => Get_any (h.quiet hW) i q i0 i1)
  have HS := Lib.hid (fun W => share_any W (t.at_ i q) (hk.ok i q).sm)
  have HRM := Lib.hid (fun W => room_any W (t.at_ i q) (hk.ok i q).sm)
  have HH := Lib.hid h
  have HE := Lib.hid (show carveE t i q gs cpu per = _ from rfl)
  have hce : carveE t i q gs cpu per = if mayD gs cpu per then (if t.has i q then (if (t.at_ i q).gs - (t.at_ i q).cgs - (t.at_ i q).own < gs ∨ subS (t.at_ i q).cpu (t.at_ i q).car < cpu then 15 else (if t.frees = 0 then 3 else 0)) else 11) else 2 := rfl
  clear HE h hk
  cases hm : mayD gs cpu per with
  | false =>
    have hE : carveE t i q gs cpu per = 2 := by rw [hce, hm]; rfl
    have HEE := Lib.hid hE
    rw [hm] at HM
    clear hce hm he hE HG HS HRM
    go_enter Try.func34, Try.ntmps34
    go_wp2_with (first
      | (go_at_call 61; refine (HN.out _ ((((Chg.refl _ _).alloc _).alloc _).alloc _ |>.alloc _)).mono ?_; rintro e w' ⟨rfl, rfl⟩)
      | (go_at_call 56; refine (HM.out _).mono ?_; rintro e w' ⟨rfl, rfl⟩))
    refine bodyPost_ret (v := .tuple #[.agg #[.int .i64 0, .int .u64 0], .int .i64 2]) (by simp [results, Try.results34, go_sem]) rfl (CvOut.no (by omega) HEE.out HH.out (by repeat' (first | with_reducible exact Chg.refl _ _ | with_reducible apply Chg.alloc | with_reducible apply Chg.setCell | (with_reducible refine Or.inr ?_; dsimp only; omega))))
  | true =>
    rw [hm] at HM
    simp only [hm, if_true] at hce
    cases hq : t.has i q with
    | false =>
      have e0 : staleE t i q = 11 := by unfold staleE; rw [hq]; rfl
      have hE : carveE t i q gs cpu per = 11 := by rw [hce, hq]; rfl
      have HEE := Lib.hid hE
      rw [e0] at HG
      obtain ⟨x, hx⟩ : ∃ x, x = t.at_ i q := ⟨_, rfl⟩
      rw [← hx] at HG
      clear hce hm he hE HS HRM e0 hq hx
      go_enter Try.func34, Try.ntmps34
      go_wp2_with (first
        | (go_at_call 61; refine (HN.out _ ((((Chg.refl _ _).alloc _).alloc _).alloc _ |>.alloc _)).mono ?_; rintro e w' ⟨rfl, rfl⟩)
        | (go_at_call 56; refine (HM.out _).mono ?_; rintro e w' ⟨rfl, rfl⟩)
        | (go_at_call 27; refine (HG.out _ ((((Chg.refl _ _).alloc _).alloc _).alloc _ |>.alloc _)).mono ?_; rintro e w1 ⟨rfl, hc⟩; have HB := Lib.hid (carve_boxes (i := i) (q := q) (gs := gs) (cpu := cpu) hc); have HC := Lib.hid ((((((Chg.refl [] w).alloc (obRef i q)).alloc (.cells #[.int .i64 gs] 3)).alloc (.cells #[.int .u64 cpu] 22)).alloc (obRef 0 0)).then hc); have hb := HB.out; obtain ⟨lb, b0, b1, b2, b3, d0, d1, df⟩ := carve_tell hb; clear hc hb))
      refine bodyPost_ret (v := .tuple #[.agg #[.int .i64 0, .int .u64 0], .int .i64 11]) (by simp [results, Try.results34, go_sem, d0, d1, lb]) rfl (CvOut.no (by omega) HEE.out HH.out (by repeat' (first | with_reducible exact HC.out | with_reducible apply Chg.alloc | with_reducible apply Chg.drew | with_reducible apply Chg.setCell | (with_reducible refine Or.inr ?_; dsimp only; omega))))
    | true =>
      have e0 : staleE t i q = 0 := by unfold staleE; rw [hq]; rfl
      simp only [hq, if_true] at hce
      rw [e0] at HG
      have hE : carveE t i q gs cpu per = 15 := by
        rcases he with h1 | h1 | h1
        · rw [h1] at hce; split at hce <;> first | (split at hce <;> omega) | omega
        · rw [h1] at hce; split at hce <;> first | (split at hce <;> omega) | omega
        · exact h1
      have hqu : (t.at_ i q).gs - (t.at_ i q).cgs - (t.at_ i q).own < gs ∨ subS (t.at_ i q).cpu (t.at_ i q).car < cpu := by
        rw [hE] at hce
        by_cases hh : (t.at_ i q).gs - (t.at_ i q).cgs - (t.at_ i q).own < gs ∨ subS (t.at_ i q).cpu (t.at_ i q).car < cpu
        · exact hh
        · rw [if_neg hh] at hce; split at hce <;> omega
      have HEE := Lib.hid hE
      obtain ⟨x, hx⟩ : ∃ x, x = t.at_ i q := ⟨_, rfl⟩
      rw [← hx] at HG HS HRM hqu
      obtain ⟨rm, hrm⟩ : ∃ rm, rm = x.gs - x.cgs - x.own := ⟨_, rfl⟩
      obtain ⟨s0, hs0⟩ : ∃ s0, s0 = x.gs - x.cgs := ⟨_, rfl⟩
      obtain ⟨s1, hs1⟩ : ∃ s1, s1 = subS x.cpu x.car := ⟨_, rfl⟩
      rw [← hrm] at HRM hqu
      rw [← hs1] at HS hqu
      rw [← hs0] at HS
      clear hce hm he hE e0 hq hx hrm hs0 hs1
      by_cases g0 : rm < gs
      · clear hqu
        have g9 : decide (rm < gs) = true := by simpa using g0
        go_enter Try.func34, Try.ntmps34
        go_wp2_with (first
          | (go_at_call 61; refine (HN.out _ ((((Chg.refl _ _).alloc _).alloc _).alloc _ |>.alloc _)).mono ?_; rintro e w' ⟨rfl, rfl⟩)
          | (go_at_call 56; refine (HM.out _).mono ?_; rintro e w' ⟨rfl, rfl⟩)
          | (go_at_call 27; refine (HG.out _ ((((Chg.refl _ _).alloc _).alloc _).alloc _ |>.alloc _)).mono ?_; rintro e w1 ⟨rfl, hc⟩; have HB := Lib.hid (carve_boxes (i := i) (q := q) (gs := gs) (cpu := cpu) hc); have HC := Lib.hid ((((((Chg.refl [] w).alloc (obRef i q)).alloc (.cells #[.int .i64 gs] 3)).alloc (.cells #[.int .u64 cpu] 22)).alloc (obRef 0 0)).then hc); have hb := HB.out; obtain ⟨lb, b0, b1, b2, b3, d0, d1, df⟩ := carve_tell hb; clear hc hb)
          | (go_at_call 62; refine (HS.out _).mono ?_; rintro e w2 ⟨rfl, hc⟩; have HB2 := Lib.hid ((HB.out.alloc (obX x)).chg hc); have HX2 := Lib.hid ((Blk.new w1 59 x.arr).chg hc (by simp)); have HC2 := Lib.hid ((HC.out.alloc (obX x)).then hc); have hb := HB2.out; obtain ⟨lb2, b20, b21, b22, b23, d20, d21, d2f⟩ := carve_tell hb; obtain ⟨l2, k0, k1, k2, k3, k4, k5, k6, k7, k8, k9, k10, kf⟩ := x_facts HX2.out; clear hc hb))
        refine wp_region_held_drew (S := fun w' => w'.cell? ⟨w.heap.size + 1, 0, none⟩ = some (.int .i64 gs) ∧ w'.cell? ⟨w.heap.size + 1 + 1, 0, none⟩ = some (.int .u64 cpu) ∧ w'.cell? ⟨w1.heap.size, 0, none⟩ = some (.int .i64 x.pi) ∧ w'.cell? ⟨w1.heap.size, 1, none⟩ = some (.int .u64 x.pg) ∧ w'.cell? ⟨w1.heap.size, 2, none⟩ = some (.int .i64 x.gs) ∧ w'.cell? ⟨w1.heap.size, 3, none⟩ = some (.int .u64 x.cpu) ∧ w'.cell? ⟨w1.heap.size, 4, none⟩ = some (.int .u64 x.per) ∧ w'.cell? ⟨w1.heap.size, 5, none⟩ = some (.int .i64 x.cgs) ∧ w'.cell? ⟨w1.heap.size, 6, none⟩ = some (.int .u64 x.car) ∧ w'.cell? ⟨w1.heap.size, 7, none⟩ = some (.int .i64 x.own) ∧ w'.cell? ⟨w1.heap.size, 8, none⟩ = some (.int .i64 x.live) ∧ w'.cell? ⟨w1.heap.size, 9, none⟩ = some (.int .u64 x.used) ∧ w'.cell? ⟨w1.heap.size, 10, none⟩ = some (.int .i64 x.ch)) (by kernel_rfl) ⟨b22, b23, k0, k1, k2, k3, k4, k5, k6, k7, k8, k9, k10⟩ (fun hHeld => ?_)
        simp only [List.setIfInBounds_toArray, List.size_toArray, List.length_cons, List.length_nil, Array.replicate]
        refine wpAnyH_take (i := 0) (v := .int .i64 gs) rfl (by kernel_rfl) (by kernel_rfl) (by kernel_rfl) (fun _ _ _ h => h) (Or.inl ⟨by rfl, fun w' hS => ?_⟩) hHeld ?_
        · obtain ⟨s0, s1, s2, s3, s4, s5, s6, s7, s8, s9, s10, s11, s12⟩ := hS
          go_simp
        simp only [Act.put, List.getElem_toArray, List.getElem_cons_succ, List.getElem_cons_zero, List.setIfInBounds_toArray, List.set_cons_zero, List.set_cons_succ]
        refine wpAnyH_take (i := 1) (v := .agg #[.int .i64 x.pi, .int .u64 x.pg, .int .i64 x.gs, .int .u64 x.cpu, .int .u64 x.per, .int .i64 x.cgs, .int .u64 x.car, .int .i64 x.own, .int .i64 x.live, .int .u64 x.used, .int .i64 x.ch]) rfl (by kernel_rfl) (by kernel_rfl) (by kernel_rfl) (fun _ _ _ h => h) (Or.inl ⟨by rfl, fun w' hS => ?_⟩) hHeld ?_
        · obtain ⟨s0, s1, s2, s3, s4, s5, s6, s7, s8, s9, s10, s11, s12⟩ := hS
          go_simp
        simp only [Act.put, List.getElem_toArray, List.getElem_cons_succ, List.getElem_cons_zero, List.setIfInBounds_toArray, List.set_cons_zero, List.set_cons_succ]
        refine wpAnyH_ready (rs := [2]) (by kernel_rfl) (by simp) ?_
        refine AllReadyH.cons rfl (fun K hK => ?_) AllReadyH.nil
        go_simp
        refine (HRM.out _).mono ?_
        rintro e w3 ⟨rfl, hc⟩
        have HC3 := Lib.hid (HC2.out.drew.then hc)
        have HB3 := Lib.hid ((HB2.out.drew).chg hc)
        have hb := HB3.out
        obtain ⟨lb3, b30, b31, b32, b33, d30, d31, d3f⟩ := carve_tell hb
        obtain ⟨l3, m0, m1, m2, m3, m4, m5, m6, m7, m8, m9, m10, k3f⟩ := x_facts (HX2.out.drew.chg hc (by simp))
        clear hc hb
        refine hK.out _ _ ⟨b32, b33, m0, m1, m2, m3, m4, m5, m6, m7, m8, m9, m10⟩ (fun hHeld => ?_)
        clear hK K
        simp only [Act.put, List.getElem_toArray, List.getElem_cons_succ, List.getElem_cons_zero, List.setIfInBounds_toArray, List.set_cons_zero, List.set_cons_succ]
        refine wpAnyH_take (i := 3) (v := .bool true) rfl (by kernel_rfl) (by kernel_rfl) (by kernel_rfl) (fun _ _ _ h => h) (Or.inl ⟨by rfl, fun w' hS => ?_⟩) hHeld ?_
        · obtain ⟨s0, s1, s2, s3, s4, s5, s6, s7, s8, s9, s10, s11, s12⟩ := hS
          go_simp
        simp only [Act.put, List.getElem_toArray, List.getElem_cons_succ, List.getElem_cons_zero, List.setIfInBounds_toArray, List.set_cons_zero, List.set_cons_succ]
        refine wpAnyH_take (i := 4) (v := .bool true) rfl (by kernel_rfl) (by kernel_rfl) (by kernel_rfl) (fun _ _ _ h => h) (Or.inl ⟨by rfl, fun w' hS => ?_⟩) hHeld ?_
        · obtain ⟨s0, s1, s2, s3, s4, s5, s6, s7, s8, s9, s10, s11, s12⟩ := hS
          go_simp
        simp only [Act.put, List.getElem_toArray, List.getElem_cons_succ, List.getElem_cons_zero, List.setIfInBounds_toArray, List.set_cons_zero, List.set_cons_succ]
        refine wpAnyH_take (i := 5) (v := undef) rfl (by kernel_rfl) (by kernel_rfl) (by kernel_rfl) (fun _ _ _ h => h) (Or.inr ⟨by kernel_rfl, rfl⟩) hHeld ?_
        simp only [Act.put, List.getElem_toArray, List.getElem_cons_succ, List.getElem_cons_zero, List.setIfInBounds_toArray, List.set_cons_zero, List.set_cons_succ]
        refine wpAnyH_take (i := 6) (v := undef) rfl (by kernel_rfl) (by kernel_rfl) (by kernel_rfl) (fun _ _ _ h => h) (Or.inr ⟨by kernel_rfl, rfl⟩) hHeld ?_
        simp only [Act.put, List.getElem_toArray, List.getElem_cons_succ, List.getElem_cons_zero, List.setIfInBounds_toArray, List.set_cons_zero, List.set_cons_succ]
        refine wpAnyH_take (i := 7) (v := undef) rfl (by kernel_rfl) (by kernel_rfl) (by kernel_rfl) (fun _ _ _ h => h) (Or.inr ⟨by kernel_rfl, rfl⟩) hHeld ?_
        simp only [Act.put, List.getElem_toArray, List.getElem_cons_succ, List.getElem_cons_zero, List.setIfInBounds_toArray, List.set_cons_zero, List.set_cons_succ]
        refine wpAnyH_take (i := 8) (v := .bool true) rfl (by kernel_rfl) (by kernel_rfl) (by kernel_rfl) (fun _ _ _ h => h) (Or.inl ⟨by rfl, fun w' hS => ?_⟩) hHeld ?_
        · obtain ⟨s0, s1, s2, s3, s4, s5, s6, s7, s8, s9, s10, s11, s12⟩ := hS
          go_simp
        simp only [Act.put, List.getElem_toArray, List.getElem_cons_succ, List.getElem_cons_zero, List.setIfInBounds_toArray, List.set_cons_zero, List.set_cons_succ]
        refine wpAnyH_done (by kernel_rfl) ?_ _
        go_wp2
        refine bodyPost_ret (v := .tuple #[.agg #[.int .i64 0, .int .u64 0], .int .i64 15]) (by simp [results, Try.results34, go_sem, d30, d31, lb3]) rfl (CvOut.no (by omega) HEE.out HH.out (by repeat' (first | with_reducible exact HC3.out | with_reducible apply Chg.alloc | with_reducible apply Chg.drew | with_reducible apply Chg.setCell | (with_reducible refine Or.inr ?_; dsimp only; omega))))
      · have g1 : s1 < cpu := hqu.resolve_left g0
        clear hqu
        have g9 : decide (rm < gs) = false := by simpa using g0
        have g8 : decide (s1 < cpu) = true := by simpa using g1
        go_enter Try.func34, Try.ntmps34
        go_wp2_with (first
          | (go_at_call 61; refine (HN.out _ ((((Chg.refl _ _).alloc _).alloc _).alloc _ |>.alloc _)).mono ?_; rintro e w' ⟨rfl, rfl⟩)
          | (go_at_call 56; refine (HM.out _).mono ?_; rintro e w' ⟨rfl, rfl⟩)
          | (go_at_call 27; refine (HG.out _ ((((Chg.refl _ _).alloc _).alloc _).alloc _ |>.alloc _)).mono ?_; rintro e w1 ⟨rfl, hc⟩; have HB := Lib.hid (carve_boxes (i := i) (q := q) (gs := gs) (cpu := cpu) hc); have HC := Lib.hid ((((((Chg.refl [] w).alloc (obRef i q)).alloc (.cells #[.int .i64 gs] 3)).alloc (.cells #[.int .u64 cpu] 22)).alloc (obRef 0 0)).then hc); have hb := HB.out; obtain ⟨lb, b0, b1, b2, b3, d0, d1, df⟩ := carve_tell hb; clear hc hb)
          | (go_at_call 62; refine (HS.out _).mono ?_; rintro e w2 ⟨rfl, hc⟩; have HB2 := Lib.hid ((HB.out.alloc (obX x)).chg hc); have HX2 := Lib.hid ((Blk.new w1 59 x.arr).chg hc (by simp)); have HC2 := Lib.hid ((HC.out.alloc (obX x)).then hc); have hb := HB2.out; obtain ⟨lb2, b20, b21, b22, b23, d20, d21, d2f⟩ := carve_tell hb; obtain ⟨l2, k0, k1, k2, k3, k4, k5, k6, k7, k8, k9, k10, kf⟩ := x_facts HX2.out; clear hc hb))
        go_region_held3 (fun w' => (w'.cell? ⟨w.heap.size + 1, 0, none⟩ = some (.int .i64 gs) ∧ w'.cell? ⟨w.heap.size + 1 + 1, 0, none⟩ = some (.int .u64 cpu)) ∧ w'.cell? ⟨w1.heap.size, 0, none⟩ = some (.int .i64 x.pi) ∧ w'.cell? ⟨w1.heap.size, 1, none⟩ = some (.int .u64 x.pg) ∧ w'.cell? ⟨w1.heap.size, 2, none⟩ = some (.int .i64 x.gs) ∧ w'.cell? ⟨w1.heap.size, 3, none⟩ = some (.int .u64 x.cpu) ∧ w'.cell? ⟨w1.heap.size, 4, none⟩ = some (.int .u64 x.per) ∧ w'.cell? ⟨w1.heap.size, 5, none⟩ = some (.int .i64 x.cgs) ∧ w'.cell? ⟨w1.heap.size, 6, none⟩ = some (.int .u64 x.car) ∧ w'.cell? ⟨w1.heap.size, 7, none⟩ = some (.int .i64 x.own) ∧ w'.cell? ⟨w1.heap.size, 8, none⟩ = some (.int .i64 x.live) ∧ w'.cell? ⟨w1.heap.size, 9, none⟩ = some (.int .u64 x.used) ∧ w'.cell? ⟨w1.heap.size, 10, none⟩ = some (.int .i64 x.ch))
          (first | go_keep)
          (first | (go_at_call 63; refine (HRM.out _).mono ?_; rintro e w3 ⟨rfl, hc⟩; have HC3 := Lib.hid (HC2.out.drew.then hc); have HB3 := Lib.hid ((HB2.out.drew).chg hc); have hb := HB3.out; obtain ⟨lb3, b30, b31, b32, b33, d30, d31, d3f⟩ := carve_tell hb; obtain ⟨l3, m0, m1, m2, m3, m4, m5, m6, m7, m8, m9, m10, k3f⟩ := x_facts (HX2.out.drew.chg hc (by simp)); clear hc hb))
        all_goals
          go_wp2
          refine bodyPost_ret (v := .tuple #[.agg #[.int .i64 0, .int .u64 0], .int .i64 15]) (by simp [results, Try.results34, go_sem, d30, d31, lb3]) rfl (CvOut.no (by omega) HEE.out HH.out (by repeat' (first | with_reducible exact HC3.out | with_reducible apply Chg.alloc | with_reducible apply Chg.drew | with_reducible apply Chg.setCell | (with_reducible refine Or.inr ?_; dsimp only; omega))))
end Go.Proofs
end
