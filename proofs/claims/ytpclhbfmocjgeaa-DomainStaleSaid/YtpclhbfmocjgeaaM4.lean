import Derived.Test.YtpclhbfmocjgeaaM3
import Derived.RangeFuncNested
import Derived.RangeFuncBound
import Derived.RangeFuncCalls
import Derived.RangeFuncLeaves
import Derived.RangeFuncFrom
import Derived.RangeFuncBox
import Derived.Shelf.Abstract
import Derived.Shelf.RegionOpen
import Derived.OwnWalkIn
import Derived.TacticsInMore
import Derived.LoopNIn
import Derived.LoopIn
import Derived.Sort.QuietIn
import Derived.Stop.RegionWithIn
import Derived.Maps.AppendAt
import Derived.Laws.EntriesVeiled
import Derived.Sort.QuietThIn
import Derived.Sort.BigQuietIn
import Derived.Sort.LoopGhostIn
section
/-! A range over a function whose rounds, and whose iterator, both turn memory: what the caller holds is said with the blocks that it speaks of. -/
namespace Go
open Go.RowKit
set_option linter.unusedVariables false

/-- M's blocks lie as they lay; the streams are as they were. -/
structure KeepM (M : Nat → Prop) (A B : World) : Prop where
  os : B.os = A.os
  tape : B.tape = A.tape
  output : B.output = A.output
  size : A.heap.size ≤ B.heap.size
  block : ∀ k, M k → B.heap[k]? = A.heap[k]?
section
variable {M M' : Nat → Prop} {A B C : World}
theorem KeepM.refl (M : Nat → Prop) (A : World) : KeepM M A A := ⟨rfl, rfl, rfl, Nat.le_refl _, fun _ _ => rfl⟩
theorem KeepM.trans (h : KeepM M A B) (k : KeepM M B C) : KeepM M A C := ⟨k.os.trans h.os, k.tape.trans h.tape, k.output.trans h.output, Nat.le_trans h.size k.size, fun i hi => (k.block i hi).trans (h.block i hi)⟩
theorem KeepM.less (h : KeepM M A B) (hs : ∀ k, M' k → M k) : KeepM M' A B := ⟨h.os, h.tape, h.output, h.size, fun k hk => h.block k (hs k hk)⟩
theorem KeepM.cell (h : KeepM M A B) {p : Addr} (hp : M p.block) : B.cell? p = A.cell? p := World.cell?_of_block (h.block p.block hp)
theorem KeepM.frozen (h : KeepM M A B) {p : Addr} (hp : M p.block) : B.frozen? p = A.frozen? p := by unfold World.frozen?; rw [h.block p.block hp]
theorem KeepM.alloc (A : World) (o : Obj) : KeepM (fun k => k < A.heap.size) A (A.alloc o) := ⟨rfl, rfl, rfl, by simp, fun k hk => Below.heap_alloc _ _ _ hk⟩
theorem KeepM.putObj (A : World) (b : Nat) (o : Obj) : KeepM (fun k => k ≠ b) A (A.putObj b o) := ⟨rfl, rfl, rfl, by simp [World.putObj], fun k hk => World.putObj_heap_other hk⟩
theorem KeepM.drew (A : World) : KeepM M A A.drew := ⟨rfl, rfl, rfl, Nat.le_refl _, fun _ _ => rfl⟩
theorem KeepM.setCell (A : World) (p : Addr) (u : Value) : KeepM (fun k => k ≠ p.block) A (A.setCell p u) := ⟨rfl, rfl, rfl, by simp [World.setCell], fun k hk => Below.heap_setCell _ _ _ _ hk⟩
theorem KeepM.of_chg {S : List Nat} (h : Go.Proofs.Chg S A B) (hM : ∀ k, M k → k < A.heap.size ∧ k ∉ S) : KeepM M A B := ⟨h.os, h.tape, h.output, h.size, fun k hk => h.block k (hM k hk).1 (hM k hk).2⟩
end
/-- What is said of some blocks holds on where these lie as they lay. -/
def FootP {β : Type} (J : β → (Nat → Prop) → World → Prop) : Prop := ∀ s M A B, J s M A → KeepM M A B → J s M B
def LowP {β : Type} (J : β → (Nat → Prop) → World → Prop) : Prop := ∀ s M A, J s M A → ∀ k, M k → k < A.heap.size

section
variable {F : Fence} {n : Nat} {P : Program} {α : Type}
/-- What an iterator does whose caller holds what it says of its own blocks. -/
def SeqFoot (F : Fence) (n : Nat) (P : Program) (g : Nat) (lb : Array Value) (encs : α → Array Value) (Kp : World → World → Prop) (T : List α → α → Prop) (S Sp : List α → Prop) (N m : Nat) (w : World) : Prop :=
  ∀ (l : Nat) (J Jx : List α → (Nat → Prop) → World → Prop) (M0 : Nat → Prop) (W : World), Kp w W → FootP J → LowP J →
    (∀ pre M x W1, J pre M W1 → T pre x → pre.length < N →
      YieldAt F m P l (encs x) W1 fun e W' => ∃ M' : Nat → Prop, (∀ k, M' k → M k ∨ W1.heap.size ≤ k) ∧ KeepM (fun k => ¬ M k ∧ k < W1.heap.size) W1 W' ∧
        ((e = .returned (.bool true) ∧ J (pre ++ [x]) M' W' ∧ Kp W1 W') ∨ (e = .returned (.bool false) ∧ Jx (pre ++ [x]) M' W'))) →
    FootP Jx → J [] M0 W → CallsIn F n P g (#[.func (.yield l) #[] #[]] ++ lb) W fun e W' => (∃ v, e = .returned v) ∧ ∃ M' : Nat → Prop, (∀ k, M' k → M0 k ∨ W.heap.size ≤ k) ∧ ((∃ xs, S xs ∧ J xs M' W') ∨ ∃ pre, Sp pre ∧ Jx pre M' W')
/-- The two blocks of the statement's own: its record, and where the rounds' deferred calls would stand. -/
def Own2 (b : Nat) (r : Loop) (W : World) : Prop := W.heap[b + 1]? = some (.loop r) ∧ W.heap[b]? = some (.deferred (some []))
section
variable {b : Nat} {r : Loop} {A B : World}
theorem Own2.lt (h : Own2 b r A) : b + 1 < A.heap.size := (Array.getElem?_eq_some_iff.1 h.1).1
theorem Own2.kept {M : Nat → Prop} (h : Own2 b r A) (hk : KeepM M A B) (h0 : M b) (h1 : M (b + 1)) : Own2 b r B := ⟨(hk.block _ h1).trans h.1, (hk.block _ h0).trans h.2⟩
theorem Own2.turn (h : Own2 b r A) (r' : Loop) : Own2 b r' (A.putObj (b + 1) (.loop r')) := ⟨World.putObj_heap_same h.lt, (World.putObj_heap_other (by omega)).trans h.2⟩
theorem Own2.lay (w : World) (r : Loop) : Own2 w.heap.size r ((w.alloc (.deferred (some []))).alloc (.loop r)) := by
  have h := World.alloc_heap_new (w.alloc (.deferred (some []))) (.loop r)
  rw [World.size_alloc] at h
  exact ⟨h, (Below.heap_alloc _ _ _ (by simp)).trans (World.alloc_heap_new w _)⟩
/-- The round's end. -/
theorem Own2.ends (h : Own2 b r A) (jump : Option Code) : (Instr.endRound (b + 1) jump).run P A = .ok (.bool jump.isNone) (A.putObj (b + 1) (.loop { r with state := if jump.isNone then .ready else .done, pending := jump })) :=
  run_endRound jump h.1
end
/-- What a round's body leaves. -/
def footPost (Kp : World → World → Prop) (I : List α → (Nat → Prop) → World → Prop) (Ix : Code → List α → (Nat → Prop) → World → Prop) (M : Nat → Prop) (xs : List α) (W : World) : Exit → Act → World → Prop
  | .normal, _, W' => Kp W W' ∧ ∃ M' : Nat → Prop, (∀ k, M' k → M k ∨ W.heap.size ≤ k) ∧ KeepM (fun k => ¬ M k ∧ k < W.heap.size) W W' ∧ I xs M' W'
  | .ret, _, W' => ∃ M' : Nat → Prop, (∀ k, M' k → M k ∨ W.heap.size ≤ k) ∧ KeepM (fun k => ¬ M k ∧ k < W.heap.size) W W' ∧ Ix .ret xs M' W'
  | .exit id, _, W' => ∃ M' : Nat → Prop, (∀ k, M' k → M k ∨ W.heap.size ≤ k) ∧ KeepM (fun k => ¬ M k ∧ k < W.heap.size) W W' ∧ Ix (.exit id) xs M' W'
  | .goto t, _, W' => ∃ M' : Nat → Prop, (∀ k, M' k → M k ∨ W.heap.size ≤ k) ∧ KeepM (fun k => ¬ M k ∧ k < W.heap.size) W W' ∧ Ix (.goto t) xs M' W'
  | .panic _, _, _ => False
  | .outgrown, _, _ => False
/-- A caller's word, with the statement's own two blocks beside it. -/
def With2 (b : Nat) (r : Loop) (I : (Nat → Prop) → World → Prop) (M : Nat → Prop) (W : World) : Prop :=
  ∃ M1 : Nat → Prop, I M1 W ∧ Own2 b r W ∧ ¬ M1 b ∧ ¬ M1 (b + 1) ∧ ∀ k, M k ↔ (M1 k ∨ k = b ∨ k = b + 1)
theorem With2.turn {b : Nat} {r r' : Loop} {I : List α → (Nat → Prop) → World → Prop} {s : List α} {M : Nat → Prop} {W : World} (hI : FootP I) (h : With2 b r (I s) M W) : With2 b r' (I s) M (W.putObj (b + 1) (.loop r')) := by
  obtain ⟨M1, h1, h2, h3, h4, h5⟩ := h
  exact ⟨M1, hI _ _ _ _ h1 ((KeepM.putObj W (b + 1) _).less (fun k hk e => h4 (e ▸ hk))), h2.turn r', h3, h4, h5⟩
theorem wpIn_rangeFunc_foot {g : Operand} {ps : Array Tmp} {assign body : Code} {Q : Exit → Act → World → Prop} {a : Act} {w : World}
    (hro : F.round = none) (h1 : 1 ≤ n) {gf : Nat} {lb : Array Value} (hg : a.eval g = .func (.func gf) #[] lb) (hFg : F.fn gf) (eg : ∀ args w, (callFunc gf args).run P w = .ok (.enter gf args) w)
    {encs : α → Array Value} {Kp : World → World → Prop} {T : List α → α → Prop} {S Sp : List α → Prop} {N m : Nat} {w0 : World} (hseq : SeqFoot F (n - 1) P gf lb encs Kp T S Sp N m w0)
    (hKt : ∀ {A B C : World}, Kp A B → Kp B C → Kp A C) (hKa : ∀ (W : World) (o : Obj), w.heap.size ≤ W.heap.size → Kp W (W.alloc o)) (hKb : ∀ (W : World) (o o' : Obj), W.heap[w.heap.size + 1]? = some o → o.isCells = false → Kp W (W.putObj (w.heap.size + 1) o')) (hb0 : Kp w0 w) (hps : ∀ x, (encs x).size = ps.size)
    (I : List α → (Nat → Prop) → World → Prop) (Ix : Code → List α → (Nat → Prop) → World → Prop) (hI : FootP I) (hIl : LowP I) (hIx : ∀ c, FootP (Ix c)) {M0 : Nat → Prop} (h0 : I [] M0 w) (Ax : α → Act → World → Prop) (hAx : ∀ x a' W o o', Ax x a' W → W.heap[w.heap.size + 1]? = some o → o.isCells = false → Ax x a' (W.putObj (w.heap.size + 1) o'))
    (hassign : ∀ (l : Nat) (pre : List α) (x : α) (M : Nat → Prop) (W : World) (K : Act → World → Prop), I pre M W → T pre x → (∀ a' W', KeepM (fun k => k < W.heap.size) W W' → Kp W W' → Ax x a' W' → K a' W') →
      assign.wpIn (F.inRound l) m P (Exit.then K (fun _ _ _ => False)) { tmps := (ps.zip (encs x)).foldl (fun t (p, v) => t.setIfInBounds p v) a.tmps, defers := [] } W)
    (hbody : ∀ (l : Nat) (pre : List α) (x : α) (a' : Act) (M : Nat → Prop) (W : World), I pre M W → T pre x → Ax x a' W → pre.length < N → (∀ k, M k → k < w.heap.size ∨ w.heap.size + 2 ≤ k) → body.wpIn (F.inRound l) m P (footPost Kp I Ix M (pre ++ [x]) W) a' W)
    (hdone : ∀ (D : Nat) (xs : List α) (M : Nat → Prop) (W : World), w.heap.size ≤ D → ¬ M D → (∀ k, M k → M0 k ∨ w.heap.size ≤ k) → S xs → I xs M W → W.heap[D]? = some (.deferred (some [])) → Q .normal { a with defers := { target := .collected D, args := #[] } :: a.defers } W)
    (hstop : ∀ (D : Nat) (c : Code) (pre : List α) (M : Nat → Prop) (W : World), w.heap.size ≤ D → ¬ M D → (∀ k, M k → M0 k ∨ w.heap.size ≤ k) → Sp pre → Ix c pre M W → W.heap[D]? = some (.deferred (some [])) → c.wpIn F n P Q { a with defers := { target := .collected D, args := #[] } :: a.defers } W) :
    (Code.rangeFunc g ps assign body).wpIn F n P Q a w := by
  refine wpIn_rangeFunc fun fn hfn => ?_
  rw [hro]
  let r0 : Loop := { state := .ready, pending := none, fn, tmps := a.tmps, params := ps, assign, body, defers := w.heap.size }
  let W1 := (w.alloc (.deferred (some []))).alloc (.loop r0)
  have hz1 : W1.heap.size = w.heap.size + 2 := by simp [W1]
  have hk1 : KeepM (fun k => k < w.heap.size) w W1 := (KeepM.alloc w _).trans ((KeepM.alloc _ _).less (fun k hk => by simp; omega))
  have hl0 := hIl _ _ _ h0
  have hI1 : I [] M0 W1 := hI _ _ _ _ h0 (hk1.less hl0)
  have hb1 : Kp w0 W1 := hKt hb0 (hKt (hKa _ _ (Nat.le_refl _)) (hKa _ _ (by simp)))
  have hJ0 : With2 w.heap.size r0 (I []) (fun k => M0 k ∨ k = w.heap.size ∨ k = w.heap.size + 1) W1 := ⟨M0, hI1, Own2.lay w r0, fun h => by have := hl0 _ h; omega, fun h => by have := hl0 _ h; omega, fun k => Iff.rfl⟩
  refine ⟨w.heap.size + 1, [{ target := .collected w.heap.size, args := #[] }], W1, { target := .fn (.func gf) lb, args := #[.func (.yield (w.heap.size + 1)) #[] #[]] }, W1, gf,
    #[.func (.yield (w.heap.size + 1)) #[] #[]] ++ lb, W1, run_enterLoop_outer _ _ _ _ _, ?_, ?_, ?_, fun _ => h1, ?_⟩
  · simp only [resolve, hg]
    simp [go_sem]
  · intro f' hf'
    simp [Target.leads] at hf'
    subst hf'; exact hFg
  · simp [invoke, go_sem, eg]
  have hfp : ∀ (r : Loop) (I' : List α → (Nat → Prop) → World → Prop), FootP I' → FootP (fun pre M W => With2 w.heap.size r (I' pre) M W) := fun r I' hI' s M A B hs hk => by
    obtain ⟨M1, e1, e2, e3, e4, e5⟩ := hs
    exact ⟨M1, hI' _ _ _ _ e1 (hk.less fun k hk => (e5 k).2 (.inl hk)), e2.kept hk ((e5 _).2 (.inr (.inl rfl))) ((e5 _).2 (.inr (.inr rfl))), e3, e4, e5⟩
  refine (hseq (w.heap.size + 1) (fun pre M W => With2 w.heap.size r0 (I pre) M W ∧ ∀ k, M k → M0 k ∨ w.heap.size ≤ k) (fun pre M W => ∃ c, With2 w.heap.size { r0 with state := .done, pending := some c } (Ix c pre) M W ∧ ∀ k, M k → M0 k ∨ w.heap.size ≤ k) (fun k => M0 k ∨ k = w.heap.size ∨ k = w.heap.size + 1) W1 hb1
    (fun s M A B hs hk => ⟨hfp r0 I hI s M A B hs.1 hk, hs.2⟩)
    (fun s M A hs k hk => by
      obtain ⟨⟨M1, e1, e2, e3, e4, e5⟩, _⟩ := hs
      have := e2.lt
      rcases (e5 k).1 hk with h | h | h
      · exact hIl _ _ _ e1 k h
      · omega
      · omega) ?_
    (fun s M A B hs hk => by
      obtain ⟨c, hc, h2⟩ := hs
      exact ⟨c, hfp _ (Ix c) (hIx c) s M A B hc hk, h2⟩) ⟨hJ0, fun k hk => hk.elim .inl (fun h => .inr (by omega))⟩).mono ?_
  · -- a round
    rintro pre M x W ⟨⟨M1, hi, hl, hm0, hm1, hM⟩, hMM⟩ hT hlen
    have hlM : w.heap.size + 1 < W.heap.size := hl.lt
    have hi1 := hIl _ _ _ hi
    refine ⟨fn, _, assign, body, run_yield hl.1 (hps x), roundIn_of_wpIn hfn (hassign _ pre x M1 W _ hi hT fun a' Wa hka hpa hax => ?_)⟩
    have hla : Own2 w.heap.size r0 Wa := hl.kept hka (by omega) hlM
    refine ⟨_, run_beginRound hla.1 rfl, ?_⟩
    have hia : I pre M1 Wa := hI _ _ _ _ hi (hka.less hi1)
    have hlb := hla.turn { r0 with state := .busy }
    have hib : I pre M1 (Wa.putObj (w.heap.size + 1) (.loop { r0 with state := .busy })) := hI _ _ _ _ hia ((KeepM.putObj _ _ _).less (fun k hk e => hm1 (e ▸ hk)))
    have hpb : Kp Wa (Wa.putObj (w.heap.size + 1) (.loop { r0 with state := .busy })) := hKb _ _ _ hla.1 rfl
    have hsz : (Wa.putObj (w.heap.size + 1) (.loop { r0 with state := .busy })).heap.size = Wa.heap.size := by simp [World.putObj]
    have hMx : ∀ k, M1 k → k < w.heap.size ∨ w.heap.size + 2 ≤ k := fun k hk => by
      rcases Nat.lt_trichotomy k w.heap.size with h | h | h
      · exact .inl h
      · subst h; exact absurd hk hm0
      · right
        rcases Nat.lt_or_ge k (w.heap.size + 2) with h' | h'
        · have e : k = w.heap.size + 1 := by omega
          subst e; exact absurd hk hm1
        · exact h'
    refine wpIn_mono (hbody _ pre x a' M1 _ hib hT (hAx _ _ _ _ _ hax hla.1 rfl) hlen hMx) ?_
    have hbeg : KeepM (fun k => ¬ M k ∧ k < W.heap.size) W (Wa.putObj (w.heap.size + 1) (.loop { r0 with state := .busy })) :=
      (hka.less (fun k hk => hk.2)).trans ((KeepM.putObj _ _ _).less (fun k hk e => hk.1 ((hM k).2 (.inr (.inr e)))))
    -- what the body leaves, with the record turned behind it
    have fin : ∀ (M' : Nat → Prop) (W3 : World) (J : (Nat → Prop) → World → Prop) (r' : Loop), (∀ M A B, J M A → KeepM M A B → J M B) → (∀ k, M' k → M1 k ∨ (Wa.putObj (w.heap.size + 1) (.loop { r0 with state := .busy })).heap.size ≤ k) →
        KeepM (fun k => ¬ M1 k ∧ k < (Wa.putObj (w.heap.size + 1) (.loop { r0 with state := .busy })).heap.size) (Wa.putObj (w.heap.size + 1) (.loop { r0 with state := .busy })) W3 → J M' W3 →
        Own2 w.heap.size { r0 with state := .busy } W3 ∧ (∀ k, (M' k ∨ k = w.heap.size ∨ k = w.heap.size + 1) → M k ∨ W.heap.size ≤ k) ∧ KeepM (fun k => ¬ M k ∧ k < W.heap.size) W (W3.putObj (w.heap.size + 1) (.loop r')) ∧
          With2 w.heap.size r' J (fun k => M' k ∨ k = w.heap.size ∨ k = w.heap.size + 1) (W3.putObj (w.heap.size + 1) (.loop r')) ∧ (∀ k, (M' k ∨ k = w.heap.size ∨ k = w.heap.size + 1) → M0 k ∨ w.heap.size ≤ k) := fun M' W3 J r' hJ hMs hk hj => by
      have hWa := hka.size
      have h3 : Own2 w.heap.size { r0 with state := .busy } W3 := hlb.kept hk ⟨hm0, by rw [hsz]; omega⟩ ⟨hm1, by rw [hsz]; omega⟩
      have n0 : ¬ M' w.heap.size := fun h => (hMs _ h).elim hm0 (fun h => by rw [hsz] at h; omega)
      have n1 : ¬ M' (w.heap.size + 1) := fun h => (hMs _ h).elim hm1 (fun h => by rw [hsz] at h; omega)
      refine ⟨h3, fun k hk => ?_, hbeg.trans ((hk.less (fun k hk => ⟨fun h => hk.1 ((hM k).2 (.inl h)), by rw [hsz]; omega⟩)).trans ((KeepM.putObj _ _ _).less (fun k hk e => hk.1 ((hM k).2 (.inr (.inr e)))))), ⟨M', hJ _ _ _ hj ((KeepM.putObj _ _ _).less (fun k hk e => n1 (e ▸ hk))), h3.turn r', n0, n1, fun k => Iff.rfl⟩, fun k hk => ?_⟩
      · rcases hk with h | h | h
        · rcases hMs k h with h | h
          · exact .inl ((hM k).2 (.inl h))
          · right; rw [hsz] at h; omega
        · exact .inl ((hM k).2 (.inr (.inl h)))
        · exact .inl ((hM k).2 (.inr (.inr h)))
      · rcases hk with h | h | h
        · rcases hMs k h with h | h
          · exact hMM k ((hM k).2 (.inl h))
          · right; rw [hsz] at h; omega
        · right; omega
        · right; omega
    have left : ∀ (c : Code) (M' : Nat → Prop) (W3 : World), (∀ k, M' k → M1 k ∨ (Wa.putObj (w.heap.size + 1) (.loop { r0 with state := .busy })).heap.size ≤ k) →
        KeepM (fun k => ¬ M1 k ∧ k < (Wa.putObj (w.heap.size + 1) (.loop { r0 with state := .busy })).heap.size) (Wa.putObj (w.heap.size + 1) (.loop { r0 with state := .busy })) W3 → Ix c (pre ++ [x]) M' W3 →
        ∃ v w', (Instr.endRound (w.heap.size + 1) (some c)).run P W3 = .ok v w' ∧ ∃ M' : Nat → Prop, (∀ k, M' k → M k ∨ W.heap.size ≤ k) ∧ KeepM (fun k => ¬ M k ∧ k < W.heap.size) W w' ∧ ((Ending.returned v = .returned (.bool true) ∧ (With2 w.heap.size r0 (I (pre ++ [x])) M' w' ∧ ∀ k, M' k → M0 k ∨ w.heap.size ≤ k) ∧ Kp W w') ∨ (Ending.returned v = .returned (.bool false) ∧ ∃ c, With2 w.heap.size { r0 with state := .done, pending := some c } (Ix c (pre ++ [x])) M' w' ∧ ∀ k, M' k → M0 k ∨ w.heap.size ≤ k)) := fun c M' W3 hMs hk hi => by
      obtain ⟨h3, h4, h5, h6, h7⟩ := fin M' W3 (Ix c (pre ++ [x])) { r0 with state := .done, pending := some c } (fun M A B => hIx c _ M A B) hMs hk hi
      exact ⟨_, _, h3.ends (some c), _, h4, h5, .inr ⟨rfl, c, h6, h7⟩⟩
    rintro e a3 W3 hp
    cases e with
    | normal =>
      obtain ⟨hkp, M', hMs, hk, hi3⟩ := hp
      obtain ⟨h3, h4, h5, h6, h7⟩ := fin M' W3 (I (pre ++ [x])) r0 (fun M A B => hI _ M A B) hMs hk hi3
      exact ⟨_, _, h3.ends none, _, h4, h5, .inl ⟨rfl, ⟨h6, h7⟩, hKt hpa (hKt hpb (hKt hkp (hKb _ _ _ h3.1 rfl)))⟩⟩
    | ret => obtain ⟨M', hMs, hk, hi⟩ := hp; exact left _ M' _ hMs hk hi
    | exit id => obtain ⟨M', hMs, hk, hi⟩ := hp; exact left _ M' _ hMs hk hi
    | goto t => obtain ⟨M', hMs, hk, hi⟩ := hp; exact left _ M' _ hMs hk hi
    | panic ch => exact hp.elim
    | outgrown => exact hp.elim
  · -- behind all rounds
    rintro e W2 ⟨⟨v, rfl⟩, M', hMs, (⟨xs, hS, ⟨M1, hi, hl, hm0, hm1, hM⟩, hMM⟩ | ⟨pre, hSp, c, ⟨M1, hi, hl, hm0, hm1, hM⟩, hMM⟩)⟩
    · exact ⟨none, _, run_endLoop hl.1 (by simp [r0]), hdone _ xs M1 _ (Nat.le_refl _) hm0 (fun k hk => hMM k ((hM k).2 (.inl hk))) hS (hI _ _ _ _ hi ((KeepM.putObj _ _ _).less (fun k hk e => hm1 (e ▸ hk)))) ((World.putObj_heap_other (by omega)).trans hl.2)⟩
    · exact ⟨some c, _, run_endLoop hl.1 (by simp), hstop _ c pre M1 _ (Nat.le_refl _) hm0 (fun k hk => hMM k ((hM k).2 (.inl hk))) hSp (hIx c _ _ _ _ hi ((KeepM.putObj _ _ _).less (fun k hk e => hm1 (e ▸ hk)))) ((World.putObj_heap_other (by omega)).trans hl.2)⟩
end
end Go
end
section
namespace Go.Proofs
open Go.RowKit Go.Shelf
set_option linter.unusedVariables false
set_option linter.unusedSimpArgs false

/-! ### A domain's chain -/
abbrev PF := Int → Int → Option (Int × Int)
/-- What a ref's parent is, where the ref names a domain. -/
def Tab.par (t : Tab Dm) : PF := fun i q => if t.has i q then some ((t.at_ i q).pi, (t.at_ i q).pg) else none
theorem par_none {t : Tab Dm} {i q : Int} : t.par i q = none ↔ t.has i q = false := by
  unfold Tab.par; cases t.has i q <;> simp
theorem par_some {t : Tab Dm} {i q a b : Int} : t.par i q = some (a, b) ↔ t.has i q = true ∧ (t.at_ i q).pi = a ∧ (t.at_ i q).pg = b := by
  unfold Tab.par; cases t.has i q <;> simp
/-- From a ref upwards: itself, its parent, and so on. -/
inductive Up (f : PF) : Int → Int → List (Int × Int) → Prop where
  | stop {i q : Int} : f i q = none → Up f i q []
  | step {i q a b : Int} {l : List (Int × Int)} : f i q = some (a, b) → Up f a b l → Up f i q ((i, q) :: l)
theorem Up.det {f : PF} {i q : Int} {l l' : List (Int × Int)} (h : Up f i q l) (h' : Up f i q l') : l = l' := by
  induction h generalizing l' with
  | stop e => cases h' with
    | stop _ => rfl
    | step e' _ => rw [e] at e'; cases e'
  | step e _ ih => cases h' with
    | stop e' => rw [e] at e'; cases e'
    | step e' h2 => rw [e] at e'; cases e'; rw [ih h2]
theorem Up.nil {f : PF} {i q : Int} (h : Up f i q []) : f i q = none := by cases h; assumption
theorem Up.cons {f : PF} {i q : Int} {x : Int × Int} {l : List (Int × Int)} (h : Up f i q (x :: l)) : x = (i, q) ∧ ∃ a b, f i q = some (a, b) ∧ Up f a b l := by
  cases h with | step e h => exact ⟨rfl, _, _, e, h⟩
/-- Domains of that shape lie at c. -/
def Shape (c : Nat) (f : PF) (W : World) : Prop := ∃ S t, DomAt W c S t ∧ t.par = f
/-- Parents have places that may be. -/
def Fit (f : PF) : Prop := ∀ i q a b, f i q = some (a, b) → -9223372036854775808 ≤ a ∧ a ≤ 9223372036854775807
def KpC (c : Nat) (f : PF) (rB dB : Nat) (A B : World) : Prop := (A.heap.size ≤ B.heap.size ∧ B.heap[rB]? = A.heap[rB]? ∧ B.heap[dB]? = A.heap[dB]?) ∧ (Shape c f A → Shape c f B)
theorem KpC.trans {c : Nat} {f : PF} {rB dB : Nat} {A B C : World} (h : KpC c f rB dB A B) (k : KpC c f rB dB B C) : KpC c f rB dB A C :=
  ⟨⟨Nat.le_trans h.1.1 k.1.1, k.1.2.1.trans h.1.2.1, k.1.2.2.trans h.1.2.2⟩, fun hs => k.2 (h.2 hs)⟩
theorem KpC.quiet {c : Nat} {f : PF} {rB dB : Nat} {A B : World} (h : Chg [] A B) (hr : rB < A.heap.size) (hd : dB < A.heap.size) : KpC c f rB dB A B :=
  ⟨⟨h.size, h.block _ hr (by simp), h.block _ hd (by simp)⟩, fun ⟨S, t, h1, h2⟩ => ⟨S, t, h1.quiet h, h2⟩⟩
theorem Shape.off {c : Nat} {f : PF} {A B : World} (h : Shape c f A) (hb : ∀ (k : Nat) (t : TypeId) (cs : Array Value), Blk A k t cs → Blk B k t cs) : Shape c f B := by
  obtain ⟨S, t, ⟨g, h1, ⟨VS, VF, hB, hS, hF, hSS⟩, h3⟩, h4⟩ := h
  have row : ∀ {e : TypeId} {size n : Nat} {v : Value} {xs : List Value}, Row A e size v n xs → Row B e size v n xs := fun {e size n v xs} hr => by
    refine ⟨hr.1, ?_⟩
    rcases hr.2 with h0 | ⟨g, cap, cur, rfl, hg, r⟩
    · exact .inl h0
    · exact .inr ⟨g, cap, cur, rfl, hb _ _ _ hg, r⟩
  exact ⟨S, t, ⟨g, hb _ _ _ h1, ⟨VS, VF, hb _ _ _ hB, row hS, row hF, hSS⟩, h3⟩, h4⟩
theorem blk_putObj {A : World} {b : Nat} {o o' : Obj} (hl : A.heap[b]? = some o) (ho : o.isCells = false) (k : Nat) (t : TypeId) (cs : Array Value) (h : Blk A k t cs) : Blk (A.putObj b o') k t cs := by
  refine h.same (World.putObj_heap_other ?_)
  rintro rfl
  unfold Blk at h
  rw [h] at hl; cases hl; cases ho
theorem KpC.alloc {c : Nat} {f : PF} {rB dB : Nat} (W : World) (o : Obj) (hr : rB < W.heap.size) (hd : dB < W.heap.size) : KpC c f rB dB W (W.alloc o) := KpC.quiet ((Chg.refl _ _).alloc _) hr hd
theorem KpC.part {c : Nat} {f : PF} {rB dB B : Nat} {A C : World} {cs : Array Value} (h : Blk A B 34 cs) (hr : B ≠ rB ∧ rB < A.heap.size) (hd : B ≠ dB ∧ dB < A.heap.size) (hk : KeepM (fun k => k ≠ B ∧ k < A.heap.size) A C) : KpC c f rB dB A C := by
  refine ⟨⟨hk.size, hk.block _ ⟨Ne.symm hr.1, hr.2⟩, hk.block _ ⟨Ne.symm hd.1, hd.2⟩⟩, ?_⟩
  rintro ⟨S, t, hd, ht⟩
  have hne := hd.ne_ty h (by decide) (by decide) (by decide) (by decide)
  have hlt := hd.lt
  obtain ⟨g, h1, h2, h3⟩ := hd
  refine ⟨S, t, ⟨g, h1.same (hk.block _ ⟨fun e => hne (by simp [e]), hlt _ (by simp)⟩), h2.same (fun k hk' => hk.block _ ⟨fun e => hne (by simp [← e, hk']), hlt _ (by simp [hk'])⟩), h3⟩, ht⟩
abbrev encR (x : Int × Int) : Array Value := #[.agg #[.int .i64 x.1, .int .u64 x.2]]
theorem chain_any (w : World) (c : Nat) (i q : Int) :
    Calls Try.prog 61 #[ptr c, .agg #[.int .i64 i, .int .u64 q]] w fun e w' => e = .returned (.func (.func 84) #[] #[ptr (w.heap.size + 1), ptr w.heap.size]) ∧ w' = (w.alloc (.cells #[ptr c] 26)).alloc (obRef i q) := by
  go_enter Try.func61, Try.ntmps61
  go_wp2
  go_ret
  exact ⟨rfl, rfl⟩
set_option maxHeartbeats 1600000 in
set_option maxRecDepth 100000 in
theorem chain_foot {n : Nat} {w : World} {c rB dB : Nat} {f : PF} {i q : Int} {L : List (Int × Int)} (hn : 1 ≤ n) (hR : Blk w rB 34 #[.int .i64 i, .int .u64 q]) (hD : Blk w dB 26 #[ptr c]) (hS : Shape c f w) (hf : Fit f) (hU : Up f i q L)
    (i0 : -9223372036854775808 ≤ i) (i1 : i ≤ 9223372036854775807) :
    SeqFoot Fence.wide n Try.prog 84 #[ptr rB, ptr dB] encR (KpC c f rB dB) (fun pre x => pre ++ [x] <+: L) (fun xs => xs = L) (fun pre => pre <+: L) L.length (n - 1) w := by
  intro l J Jx M0 W hW hJ hJl hY hJx h0
  have lr := hR.lt
  have ld := hD.lt
  have rW : Blk W rB 34 #[.int .i64 i, .int .u64 q] := hR.same hW.1.2.1
  have b0 := rW.cell 0
  have b1 := rW.cell 1
  have HRD := Lib.hid (show rB < W.heap.size ∧ dB < W.heap.size from ⟨rW.lt, Nat.lt_of_lt_of_le ld hW.1.1⟩)
  have HDW := Lib.hid (fun W' (h : KpC c f rB dB W W') => (show Blk W' dB 26 #[ptr c] from (hD.same hW.1.2.2).same h.1.2.2))
  have HSW := Lib.hid (fun W' (h : KpC c f rB dB W W') => h.2 (hW.2 hS))
  have HJ := Lib.hid hJ
  have HJL := Lib.hid hJl
  have HF := Lib.hid hf
  clear hR hD hS hf rW lr ld
  refine callsIn_of_wp Try.func84 rfl trivial ?_ rfl
  simp only [Try.ntmps84, List.size_toArray, List.length_cons, List.length_nil, Nat.reduceAdd, Nat.reduceSub, Array.replicate_succ, Array.replicate_zero, List.push_toArray, List.append_toArray, List.nil_append, List.cons_append]
  gi_wp2
  gi_loopg [4] L.length (fun gh b4 wr => ∃ (pre rest : List (Int × Int)) (B : Nat) (a b : Int) (M : Nat → Prop), gh = rest.length ∧ b4 = .pointer (some ⟨B, 0, none⟩) ∧ Hid (L = pre ++ rest ∧ Up f a b rest ∧ KpC c f rB dB W wr ∧ J pre M wr ∧ (¬ M B ∧ W.heap.size ≤ B) ∧ (∀ k, M k → M0 k ∨ W.heap.size ≤ k) ∧ (-9223372036854775808 ≤ a ∧ a ≤ 9223372036854775807)) ∧ Hid (Blk wr B 34 #[.int .i64 a, .int .u64 b]))
  case atStart =>
    refine ⟨[], L, W.heap.size, i, q, M0, rfl, rfl, Lib.hid ⟨rfl, hU, KpC.alloc W _ HRD.out.1 HRD.out.2, HJ.out _ _ _ _ h0 ((KeepM.alloc W _).less (HJL.out _ _ _ h0)), ⟨fun h => by have := HJL.out _ _ _ h0 _ h; omega, Nat.le_refl _⟩, fun k hk => .inl hk, i0, i1⟩, Lib.hid (Blk.new W 34 _)⟩
  case round =>
    obtain ⟨pre, rest, B, a, b, M, rfl, rfl, HH, HB⟩ := hrel
    obtain ⟨hL, hup, hk, hj, ⟨hMB, hWB⟩, hM0, a0, a1⟩ := HH.out
    obtain ⟨S, t, hdom, hpar⟩ := HSW.out _ hk
    have hdB := HDW.out _ hk
    have d0 := hdB.cell 0
    have c0 := HB.out.cell 0
    have c1 := HB.out.cell 1
    have lB := HB.out.lt
    have HG := Lib.hid (Get_any hdom a b a0 a1)
    obtain ⟨x, hx⟩ : ∃ x, x = t.at_ a b := ⟨_, rfl⟩
    rw [← hx] at HG
    have sz := hk.1.1
    have lrw : rB < wr.heap.size := Nat.lt_of_lt_of_le HRD.out.1 sz
    have ldw : dB < wr.heap.size := Nat.lt_of_lt_of_le HRD.out.2 sz
    cases rest with
    | nil =>
      have hno := par_none.1 (hpar ▸ hup.nil)
      have e0 : staleE t a b = 11 := by unfold staleE; rw [hno]; rfl
      rw [e0] at HG
      have HL := Lib.hid hL
      have Hj := Lib.hid hj
      have HM0 := Lib.hid hM0
      clear hup hno e0 hx hpar hdom hL hj hk HH hdB hM0
      gi_wp2_with (refine ⟨trivial, ?_⟩; gi_at_call 15; refine (callsIn_wide.2 HG.out).mono ?_; rintro e w1 ⟨rfl, hc⟩; have HC := Lib.hid hc; clear hc)
      refine ⟨(fun f h => by cases h), ?_⟩
      gi_wp2_with (fail)
      refine bodyPost_ret (results_none rfl _ _ _) rfl ?_
      have hjj : J pre M (w1.alloc (obX x)) := HJ.out _ _ _ _ Hj.out (KeepM.of_chg (S := []) (HC.out.alloc _) (fun k hk => ⟨HJL.out _ _ _ Hj.out k hk, by simp⟩))
      exact ⟨⟨_, rfl⟩, M, HM0.out, .inl ⟨pre, by rw [HL.out, List.append_nil], hjj⟩⟩
    | cons y rest =>
      obtain ⟨rfl, pa, pb, hfab, hup'⟩ := hup.cons
      obtain ⟨hhas, hpi, hpg⟩ := par_some.1 ((congrFun (congrFun hpar a) b).trans hfab)
      have e0 : staleE t a b = 0 := by unfold staleE; rw [hhas]; rfl
      rw [e0] at HG
      rw [← hx] at hpi hpg
      subst hpi hpg
      obtain ⟨p0, p1⟩ := HF.out _ _ _ _ hfab
      have HL := Lib.hid hL
      have Hj := Lib.hid hj
      have HM0 := Lib.hid hM0
      have HUP := Lib.hid hup'
      have HK := Lib.hid hk
      have hjY := fun w1 (hc : Chg [] wr w1) => hY pre M (a, b) (w1.alloc (obX x)) (HJ.out _ _ _ _ hj (KeepM.of_chg (S := []) (hc.alloc _) (fun k hk => ⟨HJL.out _ _ _ hj k hk, by simp⟩))) (by rw [hL]; exact ⟨rest, by simp⟩) (by rw [hL]; simp)
      have HYY := Lib.hid hjY
      clear hup hup' hhas e0 hx hpar hdom hL hj hk HH hdB hM0 hfab hjY hY
      gi_wp2_with (refine ⟨trivial, ?_⟩; gi_at_call 15; refine (callsIn_wide.2 HG.out).mono ?_; rintro e w1 ⟨rfl, hc⟩; have HC := Lib.hid hc; obtain ⟨fn, tmps, assign, body, hy, hRo⟩ := HYY.out w1 hc; have c0' := ((HB.out.chg hc (by simp)).alloc (obX x)).cell 0; have c1' := ((HB.out.chg hc (by simp)).alloc (obX x)).cell 1; clear hc)
      refine hRo.mono ?_
      rintro e W3 ⟨M', hM', hk3, hor⟩
      have z1 := HC.out.size
      have hx3 : Blk W3 w1.heap.size 45 x.arr := (Blk.new w1 45 x.arr).same (hk3.block _ ⟨fun h => by have := HJL.out _ _ _ Hj.out _ h; omega, by simp⟩)
      have hb3 : Blk W3 B 34 #[.int .i64 a, .int .u64 b] := ((HB.out.chg HC.out (by simp)).alloc (obX x)).same (hk3.block _ ⟨hMB, by simp; omega⟩)
      rcases hor with ⟨rfl, hJ3, hkp3⟩ | ⟨rfl, hJx3⟩
      · obtain ⟨l3, k0, k1, k2, k3, k4, k5, k6, k7, k8, k9, k10, kf⟩ := x_facts hx3
        have f0 := hb3.frozen 0
        have f1 := hb3.frozen 1
        have v0 := hb3.cell 0
        have v1 := hb3.cell 1
        have lb3 := hb3.lt
        have hnB : ¬ M' B := fun h => by
          rcases hM' B h with h | h
          · exact hMB h
          · simp at h; omega
        have hne : B ≠ w1.heap.size := by omega
        have HJ3 := Lib.hid hJ3
        have HK3 := Lib.hid (HK.out.trans ((KpC.quiet (HC.out.alloc (obX x)) lrw ldw).trans hkp3))
        have HM' := Lib.hid hM'
        have HNB := Lib.hid hnB
        have HB3 := Lib.hid hb3
        clear hJ3 hkp3 hk3 hb3 hx3 hM' hnB
        gi_wp2
        gi_roundg rest.length
        case measure => simp
        case rel =>
          have hk4 : KeepM (fun k => k ≠ B ∧ k < W3.heap.size) W3 (((W3.setCell ⟨B, 0, none⟩ (.int .i64 x.pi)).setCell ⟨B, 1, none⟩ (.int .u64 x.pg)).alloc (obRef x.pi x.pg)) :=
            (((KeepM.setCell W3 ⟨B, 0, none⟩ (.int .i64 x.pi)).less (fun k hk => hk.1)).trans ((KeepM.setCell _ ⟨B, 1, none⟩ (.int .u64 x.pg)).less (fun k hk => hk.1))).trans ((KeepM.alloc _ _).less (fun k hk => by simp [World.setCell]; exact hk.2))
          have hj4 := HJ.out _ _ _ _ HJ3.out (hk4.less (fun k hk => ⟨fun e => HNB.out (e ▸ hk), HJL.out _ _ _ HJ3.out k hk⟩))
          refine ⟨pre ++ [(a, b)], rest, W3.heap.size, x.pi, x.pg, M', rfl, rfl, Lib.hid ⟨by rw [HL.out]; simp, HUP.out, HK3.out.trans ?_, hj4, ⟨fun h => by have := HJL.out _ _ _ HJ3.out _ h; omega, by omega⟩, fun k hk => ?_, p0, p1⟩, Lib.hid ?_⟩
          · exact KpC.part HB3.out (by have := HRD.out.1; omega) (by have := HRD.out.2; omega) hk4
          · rcases HM'.out k hk with h | h
            · exact HM0.out k h
            · right; simp at h; omega
          · exact Blk.at' _ 34 _ (by simp [World.setCell])
      · have HJ3 := Lib.hid hJx3
        have HM' := Lib.hid hM'
        clear hJx3 hk3 hb3 hx3 hM'
        gi_wp2
        refine bodyPost_ret (results_none rfl _ _ _) rfl ?_
        refine ⟨⟨_, rfl⟩, M', fun k hk => ?_, .inr ⟨_, by rw [HL.out]; exact ⟨rest, by simp⟩, HJ3.out⟩⟩
        rcases HM'.out k hk with h | h
        · exact HM0.out k h
        · right; simp at h; omega
end Go.Proofs
end
section
namespace Go.Proofs
open Go.RowKit Go.Shelf
set_option linter.unusedVariables false
set_option linter.unusedSimpArgs false

/-! ### Changing what a ref names -/
section
variable {t : Tab Dm} {i q j r : Int} {h : Dm → Dm}
theorem thing_live {t : Tab Dm} {k : Nat} {x : Dm} (j : Int) : (t.thing k x).live j = (t.live j).map (fun s => if j = (k : Nat) then { s with thing := x } else s) := by
  unfold Tab.thing
  cases hs : t.spots[k]? with
  | none =>
    cases hl : t.live j with
    | none => rfl
    | some s =>
      obtain ⟨j0, j1, j2⟩ := live_iff.1 hl
      have : ¬ j = (k : Nat) := fun e => by subst e; simp at j1; rw [hs] at j1; cases j1
      simp only [Option.map_some, if_neg this]
  | some s0 =>
    have hk := (List.getElem?_eq_some_iff.1 hs).1
    by_cases j0 : 0 ≤ j
    · obtain ⟨m, rfl⟩ := Int.eq_ofNat_of_zero_le j0
      by_cases e : m = k
      · subst e
        cases hl : t.live (m : Nat) with
        | none =>
          have hth : s0.there = false := by
            cases hb : s0.there with
            | false => rfl
            | true => have := live_nat.2 ⟨hs, hb⟩; rw [hl] at this; cases this
          show Tab.live _ _ = none
          unfold Tab.live Tab.spot?
          simp [List.getElem?_set_self hk, hth]
        | some s =>
          have e := (live_nat.1 hl).1
          have e2 := (live_nat.1 hl).2
          rw [hs] at e; cases e
          simp only [Option.map_some, if_true]
          exact live_nat.2 ⟨by show (t.spots.set _ _)[_]? = _; rw [List.getElem?_set_self hk], e2⟩
      · have e' : ¬ ((m : Nat) : Int) = (k : Nat) := by omega
        have : (fun s : Spot Dm => if ((m : Nat) : Int) = (k : Nat) then { s with thing := x } else s) = id := by funext s; rw [if_neg e']; rfl
        rw [this, Option.map_id]
        show Tab.live _ _ = Tab.live t _
        unfold Tab.live Tab.spot?
        simp [List.getElem?_set_ne (Ne.symm e)]
    · unfold Tab.live Tab.spot?
      simp [j0]
theorem upd_live (j : Int) : (t.upd i q h).live j = (t.live j).map (fun s => if t.has i q = true ∧ j = i then { s with thing := h (t.at_ i q) } else s) := by
  cases hq : t.has i q with
  | false => rw [Tab.upd_no hq]; simp
  | true =>
    rw [Tab.upd_yes hq, thing_live]
    obtain ⟨s, hl, _⟩ := has_iff.1 hq
    have := (live_iff.1 hl).1
    simp only [true_and, Int.toNat_of_nonneg this]
theorem upd_has : (t.upd i q h).has j r = t.has j r := by
  unfold Tab.has
  rw [upd_live]
  cases t.live j with
  | none => rfl
  | some s => simp only [Option.map_some]; split <;> rfl
theorem upd_at : (t.upd i q h).at_ j r = if t.has i q = true ∧ j = i ∧ r = q then h (t.at_ i q) else t.at_ j r := by
  conv => lhs; unfold Tab.at_
  rw [upd_live]
  cases hl : t.live j with
  | none =>
    simp only [Option.map_none]
    rw [if_neg, show t.at_ j r = dm0 by unfold Tab.at_; rw [hl]]
    rintro ⟨h1, rfl, rfl⟩
    obtain ⟨s, hl', _⟩ := has_iff.1 h1
    rw [hl] at hl'; cases hl'
  | some s =>
    simp only [Option.map_some]
    by_cases hq : t.has i q = true ∧ j = i
    · rw [if_pos hq]
      obtain ⟨h1, rfl⟩ := hq
      obtain ⟨s', hl', hg⟩ := has_iff.1 h1
      rw [hl] at hl'; cases hl'
      simp only
      by_cases e : s.gen = r
      · subst e; subst hg; simp [h1]
      · rw [if_neg e, if_neg (fun h => e (by rw [hg]; exact h.2.2.symm))]
        unfold Tab.at_; rw [hl]; simp [e]
    · have ha : t.at_ j r = if s.gen = r then s.thing else dm0 := by unfold Tab.at_; rw [hl]
      rw [if_neg hq, ha]
      exact (if_neg (fun h' : t.has i q = true ∧ j = i ∧ r = q => hq ⟨h'.1, h'.2.1⟩)).symm
theorem upd_par (hp : ∀ x, (h x).pi = x.pi ∧ (h x).pg = x.pg) : (t.upd i q h).par = t.par := by
  funext j r
  unfold Tab.par
  rw [upd_has]
  cases hj : t.has j r with
  | false => rfl
  | true =>
    simp only [if_true]
    rw [upd_at]
    split
    · rename_i e
      obtain ⟨_, rfl, rfl⟩ := e
      rw [(hp _).1, (hp _).2]
    · rfl
theorem thing_same {k : Nat} {x : Dm} : (t.thing k x).size = t.size ∧ (t.thing k x).first = t.first ∧ (t.thing k x).retired = t.retired ∧ (t.thing k x).freed = t.freed ∧ (t.thing k x).spots.length = t.spots.length := by
  unfold Tab.thing; split <;> simp
theorem upd_same : (t.upd i q h).size = t.size ∧ (t.upd i q h).first = t.first ∧ (t.upd i q h).retired = t.retired ∧ (t.upd i q h).freed = t.freed ∧ (t.upd i q h).spots.length = t.spots.length := by
  unfold Tab.upd; split
  · exact thing_same
  · simp
theorem upd_none (hq : t.has i q = false) : t.upd i q h = t := Tab.upd_no hq h
end
/-- Each one of a chain is changed. -/
def updAll (h : Dm → Dm) (l : List (Int × Int)) (t : Tab Dm) : Tab Dm := l.foldl (fun t r => t.upd r.1 r.2 h) t
theorem updAll_snoc (h : Dm → Dm) (l : List (Int × Int)) (x : Int × Int) (t : Tab Dm) : updAll h (l ++ [x]) t = (updAll h l t).upd x.1 x.2 h := by unfold updAll; rw [List.foldl_append]; rfl
theorem updAll_has (h : Dm → Dm) (l : List (Int × Int)) (t : Tab Dm) (j r : Int) : (updAll h l t).has j r = t.has j r := by
  induction l generalizing t with
  | nil => rfl
  | cons x l ih => exact (ih (t.upd x.1 x.2 h)).trans upd_has
theorem updAll_par {h : Dm → Dm} (hp : ∀ x, (h x).pi = x.pi ∧ (h x).pg = x.pg) (l : List (Int × Int)) (t : Tab Dm) : (updAll h l t).par = t.par := by
  induction l generalizing t with
  | nil => rfl
  | cons x l ih => exact (ih (t.upd x.1 x.2 h)).trans (upd_par hp)
theorem updAll_off (h : Dm → Dm) (l : List (Int × Int)) (t : Tab Dm) (j r : Int) (hn : (j, r) ∉ l) : (updAll h l t).at_ j r = t.at_ j r := by
  induction l generalizing t with
  | nil => rfl
  | cons x l ih =>
    refine (ih (t.upd x.1 x.2 h) (fun hm => hn (by simp [hm]))).trans ?_
    rw [upd_at, if_neg]
    rintro ⟨_, rfl, rfl⟩
    exact hn (by simp)
/-- What a chain's change makes of each. -/
theorem updAll_at (h : Dm → Dm) (l : List (Int × Int)) (hd : l.Nodup) (t : Tab Dm) (j r : Int) : (updAll h l t).at_ j r = if (j, r) ∈ l ∧ t.has j r = true then h (t.at_ j r) else t.at_ j r := by
  induction l generalizing t with
  | nil => simp [updAll]
  | cons x l ih =>
    obtain ⟨x1, x2⟩ := x
    obtain ⟨hx, hd'⟩ := List.nodup_cons.1 hd
    have e : updAll h ((x1, x2) :: l) t = updAll h l (t.upd x1 x2 h) := rfl
    rw [e, ih hd', upd_has, upd_at]
    by_cases ej : j = x1 ∧ r = x2
    · obtain ⟨rfl, rfl⟩ := ej
      cases hq : t.has j r <;> simp [hx, hq]
    · have : ¬ (t.has x1 x2 = true ∧ j = x1 ∧ r = x2) := fun h => ej h.2
      simp only [if_false, List.mem_cons, Prod.mk.injEq, ej, false_or, and_false]
theorem updAll_same (h : Dm → Dm) (l : List (Int × Int)) (t : Tab Dm) : (updAll h l t).size = t.size ∧ (updAll h l t).first = t.first ∧ (updAll h l t).retired = t.retired ∧ (updAll h l t).freed = t.freed ∧ (updAll h l t).spots.length = t.spots.length := by
  induction l generalizing t with
  | nil => exact ⟨rfl, rfl, rfl, rfl, rfl⟩
  | cons x l ih =>
    obtain ⟨a1, a2, a3, a4, a5⟩ := ih (t.upd x.1 x.2 h)
    obtain ⟨b1, b2, b3, b4, b5⟩ := upd_same (t := t) (i := x.1) (q := x.2) (h := h)
    exact ⟨a1.trans b1, a2.trans b2, a3.trans b3, a4.trans b4, a5.trans b5⟩
theorem updAll_wf (h : Dm → Dm) (l : List (Int × Int)) (t : Tab Dm) (hw : t.WF) : (updAll h l t).WF := by
  induction l generalizing t with
  | nil => exact hw
  | cons x l ih => exact ih _ (hw.upd _ _ _)
/-- A chain names each but once. -/
theorem Up.nodup {f : PF} {i q : Int} {l : List (Int × Int)} (h : Up f i q l) : l.Nodup := by
  have key : ∀ {i q : Int} {l : List (Int × Int)}, Up f i q l → ∀ x ∈ l, ∃ l', Up f x.1 x.2 l' ∧ l'.length ≤ l.length := by
    intro i q l h
    induction h with
    | stop e => intro x hx; cases hx
    | step e h ih =>
      intro x hx
      rcases List.mem_cons.1 hx with rfl | hx
      · exact ⟨_, Up.step e h, Nat.le_refl _⟩
      · obtain ⟨l', h1, h2⟩ := ih x hx
        exact ⟨l', h1, by simp; omega⟩
  induction h with
  | stop e => exact List.nodup_nil
  | step e h ih =>
    refine List.nodup_cons.2 ⟨fun hm => ?_, ih⟩
    obtain ⟨l', h1, h2⟩ := key h _ hm
    have := Up.det h1 (Up.step e h)
    subst this
    simp at h2
    omega
theorem Up.has {t : Tab Dm} {i q : Int} {l : List (Int × Int)} (h : Up t.par i q l) : ∀ x ∈ l, t.has x.1 x.2 = true := by
  induction h with
  | stop e => intro x hx; cases hx
  | step e h ih =>
    intro x hx
    rcases List.mem_cons.1 hx with rfl | hx
    · exact (par_some.1 e).1
    · exact ih x hx
theorem Up.mem_fit {f : PF} (hf : Fit f) {i q : Int} {l : List (Int × Int)} (h : Up f i q l) (i0 : -9223372036854775808 ≤ i) (i1 : i ≤ 9223372036854775807) : ∀ x ∈ l, -9223372036854775808 ≤ x.1 ∧ x.1 ≤ 9223372036854775807 := by
  induction h with
  | stop e => intro x hx; cases hx
  | step e h ih =>
    intro x hx
    rcases List.mem_cons.1 hx with rfl | hx
    · exact ⟨i0, i1⟩
    · have := hf _ _ _ _ e
      exact ih this.1 this.2 x hx
end Go.Proofs
end
section
namespace Go.Proofs
open Go.RowKit Go.Shelf
set_option linter.unusedVariables false
set_option linter.unusedSimpArgs false
attribute [local go_sem] Oper.semAt_some

set_option maxHeartbeats 3200000 in
set_option maxRecDepth 100000 in
theorem changeChain_in (n : Nat) (hn : 6 ≤ n) {w : World} {c : Nat} {S : List Nat} {t : Tab Dm} (h : DomAt w c S t) {i q : Int} {L : List (Int × Int)} (hU : Up t.par i q L) (hfit : Fit t.par) (i0 : -9223372036854775808 ≤ i) (i1 : i ≤ 9223372036854775807)
    {N f : Nat} {cs : Array Value} {ok : World → Prop} {d : Dm → Prop} {hf : Dm → Dm} (hH : How N f cs ok d hf) (hp : ∀ x, (hf x).pi = x.pi ∧ (hf x).pg = x.pg) (hN : N ≤ w.heap.size) (hok : ∀ W, KeepM (fun k => k < w.heap.size ∧ k ∉ S) w W → ok W) (hd : ∀ x ∈ L, d (t.at_ x.1 x.2)) :
    CallsIn Fence.wide n Try.prog 80 #[ptr c, .agg #[.int .i64 i, .int .u64 q], .func (.func f) #[] cs] w fun e w' => e = .returned (.tuple #[]) ∧ DomAt w' c S (updAll hf L t) ∧ Chg S w w' := by
  have h1 : 1 ≤ n := by omega
  refine callsIn_of_wp_marks Try.func80 rfl trivial ?_ rfl
  simp only [Try.ntmps80, List.size_toArray, List.length_cons, List.length_nil, Nat.reduceAdd, Nat.reduceSub, Array.replicate_succ, Array.replicate_zero, List.push_toArray, List.append_toArray, List.nil_append, List.cons_append]
  gi_wp2_with (refine ⟨trivial, ?_⟩; gi_at_call 61; refine (callsIn_wide.2 (chain_any _ _ _ _)).mono ?_; rintro e w' ⟨rfl, rfl⟩)
  have hC0 : Chg [] w (((((w.alloc (.cells #[ptr c] 26)).alloc (obRef i q)).alloc (.cells #[.func (.func f) #[] cs] 87)).alloc (.cells #[ptr c] 26)).alloc (obRef i q)) := (((((Chg.refl [] w).alloc _).alloc _).alloc _).alloc _).alloc _
  have b3 : Blk (((((w.alloc (.cells #[ptr c] 26)).alloc (obRef i q)).alloc (.cells #[.func (.func f) #[] cs] 87)).alloc (.cells #[ptr c] 26)).alloc (obRef i q)) w.heap.size 26 #[ptr c] := ((((Blk.new w 26 _).alloc _).alloc _).alloc _).alloc _
  have b5 : Blk (((((w.alloc (.cells #[ptr c] 26)).alloc (obRef i q)).alloc (.cells #[.func (.func f) #[] cs] 87)).alloc (.cells #[ptr c] 26)).alloc (obRef i q)) (w.heap.size + 1 + 1) 87 #[.func (.func f) #[] cs] := ((Blk.at' _ 87 _ (by simp)).alloc _).alloc _
  have b6 : Blk (((((w.alloc (.cells #[ptr c] 26)).alloc (obRef i q)).alloc (.cells #[.func (.func f) #[] cs] 87)).alloc (.cells #[ptr c] 26)).alloc (obRef i q)) (w.heap.size + 1 + 1 + 1) 26 #[ptr c] := (Blk.at' _ 26 _ (by simp)).alloc _
  have b7 : Blk (((((w.alloc (.cells #[ptr c] 26)).alloc (obRef i q)).alloc (.cells #[.func (.func f) #[] cs] 87)).alloc (.cells #[ptr c] 26)).alloc (obRef i q)) (w.heap.size + 1 + 1 + 1 + 1) 34 #[.int .i64 i, .int .u64 q] := Blk.at' _ 34 _ (by simp)
  have hz0 : (((((w.alloc (.cells #[ptr c] 26)).alloc (obRef i q)).alloc (.cells #[.func (.func f) #[] cs] 87)).alloc (.cells #[ptr c] 26)).alloc (obRef i q)).heap.size = w.heap.size + 5 := by simp
  obtain ⟨W0, hW0⟩ : ∃ W0, (((((w.alloc (.cells #[ptr c] 26)).alloc (obRef i q)).alloc (.cells #[.func (.func f) #[] cs] 87)).alloc (.cells #[ptr c] 26)).alloc (obRef i q)) = W0 := ⟨_, rfl⟩
  rw [hW0] at hC0 b3 b5 b6 b7 hz0 ⊢
  clear hW0
  have hD0 := h.quiet hC0
  have hlt := h.lt
  have hmf := hU.mem_fit hfit i0 i1
  refine wpIn_rangeFunc_foot rfl h1 (gf := 84) (lb := #[ptr (w.heap.size + 1 + 1 + 1 + 1), ptr (w.heap.size + 1 + 1 + 1)]) rfl trivial (enters_of Try.func84 (by kernel_rfl) rfl)
    (chain_foot (n := n - 1) (by omega) b7 b6 ⟨S, t, hD0, rfl⟩ hfit hU i0 i1) (fun h k => h.trans k) ?hKa
    ?hKb ?hb0 (fun _ => rfl)
    (fun pre M W => (∀ k, M k ↔ k < W0.heap.size) ∧ DomAt W c S (updAll hf pre t) ∧ Chg S W0 W) (fun _ _ _ _ => False)
    ?hI ?hIl (fun c s M A B hs _ => hs) (M0 := fun k => k < W0.heap.size) ⟨fun k => Iff.rfl, hD0, Chg.refl _ _⟩
    (fun x a' W => ∃ Bx, Blk W Bx 34 #[.int .i64 x.1, .int .u64 x.2] ∧ a' = { tmps := #[ptr c, .agg #[.int .i64 i, .int .u64 q], .func (.func f) #[] cs, ptr w.heap.size, ptr (w.heap.size + 1), ptr (w.heap.size + 1 + 1), ptr Bx, ptr c, .agg #[.int .i64 i, .int .u64 q], .func (.func 84) #[] #[ptr (w.heap.size + 1 + 1 + 1 + 1), ptr (w.heap.size + 1 + 1 + 1)], .agg #[.int .i64 x.1, .int .u64 x.2], undef, undef, undef, undef], defers := [] })
    ?hAx ?assign ?body ?done ?stop
  case hKa => exact fun W o hle => KpC.alloc W o (by omega) (by omega)
  case hKb => exact fun W o o' hl ho => ⟨⟨by simp [World.putObj], World.putObj_heap_other (by omega), World.putObj_heap_other (by omega)⟩, fun hs => hs.off (blk_putObj hl ho)⟩
  case hb0 => exact ⟨⟨Nat.le_refl _, rfl, rfl⟩, id⟩
  case hI =>
    rintro pre M A B ⟨hM, hD, hC⟩ hk
    refine ⟨hM, ?_, ⟨hk.os.trans hC.os, hk.tape.trans hC.tape, hk.output.trans hC.output, Nat.le_trans hC.size hk.size, fun k hk1 hk2 => (hk.block k ((hM k).2 hk1)).trans (hC.block k hk1 hk2)⟩⟩
    obtain ⟨g, g1, g2, g3⟩ := hD
    have hl := fun k (hk' : k ∈ c :: S) => (hM k).2 (Nat.lt_of_lt_of_le (hlt k hk') hC0.size)
    exact ⟨g, g1.same (hk.block _ (hl _ (by simp))), g2.same (fun k hk' => hk.block _ (hl k (by simp [hk']))), g3⟩
  case hIl => exact fun pre M A hs k hk => Nat.lt_of_lt_of_le ((hs.1 k).1 hk) hs.2.2.size
  case hAx => exact fun x a' W o o' ⟨Bx, h1, h2⟩ hl ho => ⟨Bx, blk_putObj hl ho _ _ _ h1, h2⟩
  case assign =>
    rintro l pre x M W K ⟨hM, hD, hC⟩ hT hK
    simp only [encR]
    gi_wp2
    have hz := hC.size
    exact hK _ _ (KeepM.alloc W _) (KpC.alloc W _ (by omega) (by omega)) ⟨W.heap.size, Blk.new W 34 _, rfl⟩
  case body =>
    rintro l pre x a' M W ⟨hM, hD, hC⟩ hT ⟨Bx, bX, rfl⟩ hlen hMx
    have hxL : x ∈ L := hT.subset (by simp)
    have hnd := hU.nodup
    have hoff : x ∉ pre := by
      obtain ⟨r, hr⟩ := hT
      rw [← hr] at hnd
      intro hm
      have := (List.nodup_append.1 (List.nodup_append.1 hnd).1).2.2 x hm x (by simp)
      exact this rfl
    have hnS : w.heap.size ∉ S := fun hm => by have := hlt _ (List.mem_cons_of_mem _ hm); omega
    have hnS2 : w.heap.size + 1 + 1 ∉ S := fun hm => by have := hlt _ (List.mem_cons_of_mem _ hm); omega
    have c3 := (b3.chg hC hnS).cell 0
    have c5 := (b5.chg hC hnS2).cell 0
    have x0 := bX.cell 0
    have x1 := bX.cell 1
    have HX := Lib.hid (change_any hD x.1 x.2 (hmf x hxL).1 (hmf x hxL).2 hH (Nat.le_trans hN (Nat.le_trans hC0.size hC.size)) (fun W' hW' => hok W' ⟨hW'.os.trans (hC.os.trans hC0.os), hW'.tape.trans (hC.tape.trans hC0.tape), hW'.output.trans (hC.output.trans hC0.output), Nat.le_trans hC0.size (Nat.le_trans hC.size hW'.size), fun k hk => (hW'.block k (by have := hC.size; omega) (by simp)).trans ((hC.block k (by omega) hk.2).trans (hC0.block k hk.1 (by simp)))⟩) (fun _ => by rw [updAll_off hf pre t x.1 x.2 hoff]; exact hd x hxL))
    have HM := Lib.hid hM
    have HC := Lib.hid hC
    have HLT := Lib.hid (fun k (hk : k ∈ S) => hlt k (List.mem_cons_of_mem _ hk))
    obtain ⟨xi, xq⟩ := x
    clear hM hD hC bX hd hok hH
    gi_wp2_with (fail)
    refine ⟨trivial, (fun h => by cases h), ?_⟩
    refine ((callsIn_wide.2 HX.out).inRound l).mono ?_
    rintro e W' ⟨rfl, hd', hc'⟩
    gi_wp2
    have z1 := HC.out.size
    have hS4 : ∀ k, w.heap.size ≤ k → k ∉ S := fun k hk hm => by have := HLT.out k hm; omega
    refine ⟨⟨⟨hc'.size, hc'.block _ (by omega) (hS4 _ (by omega)), hc'.block _ (by omega) (hS4 _ (by omega))⟩, fun _ => ⟨S, _, hd', by rw [upd_par hp, updAll_par hp]⟩⟩, M, fun k hk => .inl hk, KeepM.of_chg hc' (fun k hk => ⟨hk.2, fun hm => hk.1 ((HM.out k).2 (by have := HLT.out k hm; omega))⟩), HM.out, by rw [updAll_snoc]; exact hd', HC.out.trans hc' (fun k hk => .inl hk)⟩
  case done =>
    rintro D xs M W hDW hMD hM0 rfl ⟨hM, hD, hC⟩ hK
    gi_wp2
    have z1 := hC.size
    refine ⟨by simp, .inl ⟨_, _, rfl, run_takeDeferred hK, ?_⟩⟩
    have hkD : KeepM (fun k => k ≠ D) W (W.putObj D (.deferred none)) := KeepM.putObj W D _
    have hDw : w.heap.size ≤ D := by omega
    refine ⟨_, results_none rfl _ _ _, rfl, ?_, ?_⟩
    · obtain ⟨g, g1, g2, g3⟩ := hD
      have hl := fun k (hk' : k ∈ c :: S) => (show k ≠ D by have := hlt k hk'; omega)
      exact ⟨g, g1.same (hkD.block _ (hl _ (by simp))), g2.same (fun k hk' => hkD.block _ (hl k (by simp [hk']))), g3⟩
    · have hc := hC0.any.trans hC (fun k hk => .inl hk)
      exact ⟨hkD.os.trans hc.os, hkD.tape.trans hc.tape, hkD.output.trans hc.output, Nat.le_trans hc.size hkD.size, fun k hk1 hk2 => (hkD.block k (by omega)).trans (hc.block k hk1 hk2)⟩
  case stop =>
    rintro D c pre M W _ _ _ _ h
    exact h.elim
theorem changeChain_any {w : World} {c : Nat} {S : List Nat} {t : Tab Dm} (h : DomAt w c S t) {i q : Int} {L : List (Int × Int)} (hU : Up t.par i q L) (hfit : Fit t.par) (i0 : -9223372036854775808 ≤ i) (i1 : i ≤ 9223372036854775807)
    {N f : Nat} {cs : Array Value} {ok : World → Prop} {d : Dm → Prop} {hf : Dm → Dm} (hH : How N f cs ok d hf) (hp : ∀ x, (hf x).pi = x.pi ∧ (hf x).pg = x.pg) (hN : N ≤ w.heap.size) (hok : ∀ W, KeepM (fun k => k < w.heap.size ∧ k ∉ S) w W → ok W) (hd : ∀ x ∈ L, d (t.at_ x.1 x.2)) :
    Calls Try.prog 80 #[ptr c, .agg #[.int .i64 i, .int .u64 q], .func (.func f) #[] cs] w fun e w' => e = .returned (.tuple #[]) ∧ DomAt w' c S (updAll hf L t) ∧ Chg S w w' :=
  (callsIn_wide (n := 8)).1 (changeChain_in 8 (by omega) h hU hfit i0 i1 hH hp hN hok hd)
end Go.Proofs
end
section
namespace Go.Proofs
open Go.RowKit Go.Shelf
set_option linter.unusedVariables false
set_option linter.unusedSimpArgs false
attribute [local go_sem] Oper.semAt_some

theorem wpListIn_append_row {F : Fence} {nF : Nat} {P : Program} (w : World) {ops : Array Oper} {rest : List Oper} {o : Oper} {a : Act} {Q : Exit → Act → World → Prop} (hg : o.guard = none) (s x : Operand) (t : TypeId)
    (ho : o.op = .call { callee := .builtin .append, args := #[s, x], argTypes := #[t, t] })
    (e : TypeId) (i : TypeInfo) (z : Value) (size bytes : Nat) (ht : P.underlying t = some (.slice e)) (hi : P.info? e = some i) (hz : i.zero = some z)
    (hsize : i.size = size) (hby : i.bytes = bytes) (hzs : z.cells.size = size)
    (v : Value) (n : Nat) (xs : List Value) (hs : a.eval s = v) (hr : Row w e size v n xs)
    (ad : Addr) (m c : Nat) (news : List Value) (hx : a.eval x = .slice (some ad) m c) (hl : news.length = m * size) (hnews : ∀ j u, news[j]? = some u → w.cell? (ad.add j) = some u) (h1 : ∀ u ∈ news, u.oneCell' = true)
    (hm : 0 < m) (h63 : n + m ≤ maxLen) (hbytes : (n + m) * bytes ≤ 140737488355328) (H : Nat) (hH : w.heap.size = H)
    (hK : ∀ g cap w', Row w' e size (.slice (some ⟨g, 0, none⟩) (n + m) cap) (n + m) (xs ++ news) → w.grownBy w' v.ownBlock → (v.ownBlock = some g ∨ g = H) → g < w'.heap.size → wpListIn F nF P ops Q rest (a.put o.dst (.slice (some ⟨g, 0, none⟩) (n + m) cap)) w') :
    wpListIn F nF P ops Q (o :: rest) a w := by
  refine wpListIn_plain hg fun K hK' => ?_
  obtain ⟨g, cap, w', hrun, r1, r2, r3, r4⟩ := run_append_row (P := P) w t o.type e i z size bytes ht hi hz hsize hby hzs v n xs hr ad m c news hl hnews h1 hm h63 hbytes H hH
  unfold Oper.wpIn
  refine ⟨?_, ?_⟩
  · simp [Oper.about, ho, resolve, Target.leads, Sem.run_pure]
  · rw [Oper.semAt_plain F _ _ (by rw [ho]; intro c hc'; cases hc')]
    simp [execOp, ho, resolve, invoke, builtin, hs, hx, hrun, Result.andThen]
    exact hK' _ _ (hK _ _ _ r1 r2 r3 r4)
theorem grown_keepM {A B : World} {v : Value} {M : Nat → Prop} (h : A.grownBy B v.ownBlock) (hM : ∀ k, M k → k < A.heap.size ∧ k ∉ foot v) : KeepM M A B :=
  ⟨h.os, h.tape, h.output, h.size, fun k hk => h.block k (hM k hk).1 (fun e => (hM k hk).2 (row_mem e.symm))⟩
/-- The kinds of blocks of which a table of domains is. -/
def DomTy (t : TypeId) : Prop := t = 62 ∨ t = 100 ∨ t = 103 ∨ t = 3
theorem Shape.kinds {c : Nat} {f : PF} {A B : World} (h : Shape c f A) (hb : ∀ (k : Nat) (t : TypeId) (cs : Array Value), DomTy t → Blk A k t cs → Blk B k t cs) : Shape c f B := by
  obtain ⟨S, t, ⟨g, h1, ⟨VS, VF, hB, hS, hF, hSS⟩, h3⟩, h4⟩ := h
  have row : ∀ {e : TypeId} {size n : Nat} {v : Value} {xs : List Value}, DomTy e → Row A e size v n xs → Row B e size v n xs := fun {e size n v xs} he hr => by
    refine ⟨hr.1, ?_⟩
    rcases hr.2 with h0 | ⟨g, cap, cur, rfl, hg, r⟩
    · exact .inl h0
    · exact .inr ⟨g, cap, cur, rfl, hb _ _ _ he hg, r⟩
  exact ⟨S, t, ⟨g, hb _ _ _ (.inl rfl) h1, ⟨VS, VF, hb _ _ _ (.inr (.inl rfl)) hB, row (.inr (.inr (.inl rfl))) hS, row (.inr (.inr (.inr rfl))) hF, hSS⟩, h3⟩, h4⟩
def refCells (l : List (Int × Int)) : List Value := l.flatMap fun x => [.int .i64 x.1, .int .u64 x.2]
theorem refCells_len (l : List (Int × Int)) : (refCells l).length = l.length * 2 := flat_len (s := 2) (fun _ => rfl) l
theorem refCells_snoc (l : List (Int × Int)) (x : Int × Int) : refCells (l ++ [x]) = refCells l ++ [.int .i64 x.1, .int .u64 x.2] := by unfold refCells; simp
theorem refCells_at {l : List (Int × Int)} {k : Nat} {x : Int × Int} (h : l[k]? = some x) : (refCells l)[k * 2]? = some (.int .i64 x.1) ∧ (refCells l)[k * 2 + 1]? = some (.int .u64 x.2) :=
  ⟨flat_at (s := 2) (fun _ => rfl) (j := 0) h rfl, flat_at (s := 2) (fun _ => rfl) (j := 1) h rfl⟩
theorem Try.info_R : (Try.prog.info? 34).map (fun i => (i.zero, i.size, i.bytes)) = some (some (.agg #[.int .i64 0, .int .u64 0]), 2, 16) := by kernel_rfl

set_option maxHeartbeats 3200000 in
set_option maxRecDepth 100000 in
theorem appendSeq_in (n : Nat) (hn : 6 ≤ n) {w : World} {c rB dB : Nat} {f : PF} {i q : Int} {L : List (Int × Int)} (hR : Blk w rB 34 #[.int .i64 i, .int .u64 q]) (hD : Blk w dB 26 #[ptr c]) (hS : Shape c f w) (hf : Fit f) (hU : Up f i q L) (hL : L.length ≤ 100000)
    (i0 : -9223372036854775808 ≤ i) (i1 : i ≤ 9223372036854775807) :
    CallsIn Fence.wide n Try.prog 83 #[.slice none 0 0, .func (.func 84) #[] #[ptr rB, ptr dB]] w fun e w' => ∃ V, e = .returned V ∧ Row w' 34 2 V L.length (refCells L) ∧ (∀ k ∈ foot V, w.heap.size ≤ k) ∧ Chg [] w w' := by
  have h1 : 1 ≤ n := by omega
  refine callsIn_of_wp_marks Try.func83 rfl trivial ?_ rfl
  simp only [Try.ntmps83, List.size_toArray, List.length_cons, List.length_nil, Nat.reduceAdd, Nat.reduceSub, Array.replicate_succ, Array.replicate_zero, List.push_toArray, List.append_toArray, List.nil_append, List.cons_append]
  gi_wp2
  have bS := Blk.new w 40 #[.slice none 0 0]
  have hR0 := hR.alloc (.cells #[.slice none 0 0] 40)
  have hD0 := hD.alloc (.cells #[.slice none 0 0] 40)
  have hS0 : Shape c f (w.alloc (.cells #[.slice none 0 0] 40)) := (KpC.alloc (c := c) (f := f) w _ hR.lt hD.lt).2 hS
  have hC0 : Chg [] w (w.alloc (.cells #[.slice none 0 0] 40)) := (Chg.refl _ _).alloc _
  have hz0 : (w.alloc (.cells #[.slice none 0 0] 40)).heap.size = w.heap.size + 1 := by simp
  obtain ⟨W0, hW0⟩ : ∃ W0, (w.alloc (.cells #[.slice none 0 0] 40)) = W0 := ⟨_, rfl⟩
  rw [hW0] at bS hR0 hD0 hS0 hC0 hz0 ⊢
  clear hW0
  have lr := hR.lt
  have ld := hD.lt
  obtain ⟨in0, hi0, hq0, hq1, hq2⟩ := info_parts Try.info_R
  refine wpIn_rangeFunc_foot rfl h1 (gf := 84) (lb := #[ptr rB, ptr dB]) rfl trivial (enters_of Try.func84 (by kernel_rfl) rfl)
    (chain_foot (n := n - 1) (by omega) hR0 hD0 hS0 hf hU i0 i1) (fun h k => h.trans k) (fun W o hle => KpC.alloc W o (by omega) (by omega))
    (fun W o o' hl ho => ⟨⟨by simp [World.putObj], World.putObj_heap_other (by omega), World.putObj_heap_other (by omega)⟩, fun hs => hs.off (blk_putObj hl ho)⟩) ⟨⟨Nat.le_refl _, rfl, rfl⟩, id⟩ (fun _ => rfl)
    (fun pre M W => ∃ A cc, Blk W w.heap.size 40 #[.slice A pre.length cc] ∧ Row W 34 2 (.slice A pre.length cc) pre.length (refCells pre) ∧ (∀ k, M k ↔ (k < W0.heap.size ∨ k ∈ foot (.slice A pre.length cc))) ∧ (∀ k ∈ foot (.slice A pre.length cc), W0.heap.size ≤ k) ∧ Chg [w.heap.size] W0 W) (fun _ _ _ _ => False)
    ?hI ?hIl (fun c s M A B hs _ => hs) (M0 := fun k => k < W0.heap.size ∨ k ∈ foot (.slice none 0 0)) ⟨none, 0, bS, Row.nil _ _ _, fun k => Iff.rfl, fun k hk => (by cases hk), Chg.refl _ _⟩
    (fun x a' W => ∃ Bx, Blk W Bx 34 #[.int .i64 x.1, .int .u64 x.2] ∧ a' = { tmps := #[.slice none 0 0, .func (.func 84) #[] #[ptr rB, ptr dB], ptr w.heap.size, undef, .slice none 0 0, ptr Bx, .func (.func 84) #[] #[ptr rB, ptr dB], .agg #[.int .i64 x.1, .int .u64 x.2], undef, undef, undef, undef, undef], defers := [] })
    ?hAx ?assign ?body ?done ?stop
  case hI =>
    rintro pre M A B ⟨A', cc, hB, hr, hM, hF, hC⟩ hk
    exact ⟨A', cc, hB.same (hk.block _ ((hM _).2 (.inl (by omega)))), hr.same (fun k hk' => hk.block _ ((hM k).2 (.inr hk'))), hM, hF, ⟨hk.os.trans hC.os, hk.tape.trans hC.tape, hk.output.trans hC.output, Nat.le_trans hC.size hk.size, fun k hk1 hk2 => (hk.block k ((hM k).2 (.inl hk1))).trans (hC.block k hk1 hk2)⟩⟩
  case hIl =>
    rintro pre M A ⟨A', cc, hB, hr, hM, hF, hC⟩ k hk
    rcases (hM k).1 hk with h | h
    · exact Nat.lt_of_lt_of_le h hC.size
    · exact hr.lt k h
  case hAx => exact fun x a' W o o' ⟨Bx, h1, h2⟩ hl ho => ⟨Bx, blk_putObj hl ho _ _ _ h1, h2⟩
  case assign =>
    rintro l pre x M W K ⟨A', cc, hB, hr, hM, hF, hC⟩ hT hK
    simp only [encR]
    gi_wp2
    have hz := hC.size
    exact hK _ _ (KeepM.alloc W _) (KpC.alloc W _ (by omega) (by omega)) ⟨W.heap.size, Blk.new W 34 _, rfl⟩
  case body =>
    rintro l pre x a' M W ⟨A', cc, hB, hr, hM, hF, hC⟩ hT ⟨Bx, bX, rfl⟩ hlen hMx
    have c0 := hB.cell 0
    have f0 := hB.frozen 0
    have x0 := bX.cell 0
    have x1 := bX.cell 1
    have lS := hB.lt
    have hz := hC.size
    have hn1 : w.heap.size ∉ foot (.slice A' pre.length cc) := hr.ty hB (by decide)
    have hn2 : (Value.slice A' pre.length cc).ownBlock ≠ some w.heap.size := fun e => hn1 (row_mem e)
    have HB := Lib.hid hB
    have HR := Lib.hid hr
    have HM := Lib.hid hM
    have HF := Lib.hid hF
    have HC := Lib.hid hC
    obtain ⟨xi, xq⟩ := x
    have hpl : pre.length + 1 ≤ 100001 := by omega
    clear hB hr hM hF hC bX
    gi_wp2_with (gi_at_builtin; refine wpListIn_append_row _ rfl _ _ 40 rfl 34 in0 (.agg #[.int .i64 0, .int .u64 0]) 2 16 Try.underlying40 hi0 hq0 hq1 hq2 rfl _ _ _ rfl (HR.out.alloc _) ⟨W.heap.size, 0, none⟩ 1 1 [.int .i64 xi, .int .u64 xq] rfl rfl (World.news_of_block (cs := #[.int .i64 xi, .int .u64 xq]) (t := 34) (fr := (0, 0)) (heap_alloc_new W _)) (by simp [Value.oneCell']) (by omega) (by unfold maxLen; omega) (by omega) (W.heap.size + 1) (by simp) ?_; intro gg cap w1 hown hgrow hat hlt1; have c1 := (hgrow.cell_far ⟨w.heap.size, 0, none⟩ (by simp; omega) (Ne.symm hn2)).trans ((HB.out.alloc (obRef xi xq)).cell 0); have f1 := (hgrow.frozen_far ⟨w.heap.size, 0, none⟩ (by simp; omega) (Ne.symm hn2)).trans ((HB.out.alloc (obRef xi xq)).frozen 0); have HOWN := Lib.hid hown; have HG := Lib.hid hgrow; have HAT := Lib.hid hat; clear hown hgrow hat)
    have hka : KeepM (fun k => k < W.heap.size ∧ k ≠ w.heap.size ∧ k ∉ foot (.slice A' pre.length cc)) W (w1.setCell ⟨w.heap.size, 0, none⟩ (.slice (some ⟨gg, 0, none⟩) (pre.length + 1) cap)) :=
      (((KeepM.alloc W _).less (fun k hk => hk.1)).trans (grown_keepM HG.out (fun k hk => ⟨by simp; omega, hk.2.2⟩))).trans ((KeepM.setCell _ ⟨w.heap.size, 0, none⟩ _).less (fun k hk => hk.2.1))
    have hgg : gg ∈ foot (.slice A' pre.length cc) ∨ gg = W.heap.size + 1 := HAT.out.imp (fun h => row_mem h) id
    have hgw : gg ≠ w.heap.size := by
      rcases hgg with h | h
      · have := HF.out _ h; omega
      · omega
    refine ⟨⟨⟨hka.size, hka.block _ ⟨by omega, by omega, fun h => by have := HF.out _ h; omega⟩, hka.block _ ⟨by omega, by omega, fun h => by have := HF.out _ h; omega⟩⟩, fun hs => hs.kinds (fun k t cs ht hb => ?_)⟩, (fun k => k < w.heap.size + 1 ∨ k ∈ foot (.slice (some ⟨gg, 0, none⟩) (pre.length + 1) cap)), ?_, ?_, some ⟨gg, 0, none⟩, cap, ?_, ?_, ?_, ?_, ?_⟩
    · refine hb.same (hka.block _ ⟨hb.lt, ?_, ?_⟩)
      · rintro rfl
        rcases ht with rfl | rfl | rfl | rfl <;> exact absurd rfl (Blk.ty hb HB.out (by decide))
      · exact HR.out.ty hb (by rcases ht with rfl | rfl | rfl | rfl <;> decide)
    · intro k hk
      rcases hk with h | h
      · exact .inl ((HM.out k).2 (.inl (by omega)))
      · simp [foot_some] at h
        subst h
        rcases hgg with h | h
        · exact .inl ((HM.out _).2 (.inr h))
        · right; omega
    · exact hka.less (fun k hk => ⟨hk.2, fun e => hk.1 ((HM.out k).2 (.inl (by omega))), fun h => hk.1 ((HM.out k).2 (.inr h))⟩)
    · have hb1 : Blk w1 w.heap.size 40 #[.slice A' pre.length cc] := (HB.out.alloc (obRef xi xq)).same (HG.out.block _ (by simp; omega) (Ne.symm hn2))
      simpa using hb1.set_ 0 (.slice (some ⟨gg, 0, none⟩) (pre.length + 1) cap)
    · rw [refCells_snoc, List.length_append]
      exact HOWN.out.far (by simpa [foot_some] using fun e => hgw e.symm) _
    · rw [List.length_append]; exact fun k => by simp [foot_some]
    · rw [List.length_append]
      intro k hk
      simp [foot_some] at hk
      subst hk
      rcases hgg with h | h
      · have := HF.out _ h; omega
      · omega
    · refine ⟨hka.os.trans HC.out.os, hka.tape.trans HC.out.tape, hka.output.trans HC.out.output, Nat.le_trans HC.out.size hka.size, fun k hk1 hk2 => (hka.block k ⟨by omega, by simpa using hk2, fun h => by have := HF.out _ h; omega⟩).trans (HC.out.block k (by omega) hk2)⟩
  case done =>
    rintro D xs M W hDW hMD hM0 rfl ⟨A', cc, hB, hr, hM, hF, hC⟩ hK
    have c0 := hB.cell 0
    gi_wp2
    have z1 := hC.size
    refine ⟨by simp, .inl ⟨_, _, rfl, run_takeDeferred hK, ?_⟩⟩
    have hkD : KeepM (fun k => k ≠ D) W (W.putObj D (.deferred none)) := KeepM.putObj W D _
    have hDF : D ∉ foot (.slice A' xs.length cc) := fun h => hMD ((hM D).2 (.inr h))
    refine ⟨_, results_tmp rfl _ _ _, _, rfl, hr.same (fun k hk => hkD.block _ (fun e => hDF (e ▸ hk))), fun k hk => by have := hF k hk; omega, ?_⟩
    exact ⟨hkD.os.trans (hC.os.trans hC0.os), hkD.tape.trans (hC.tape.trans hC0.tape), hkD.output.trans (hC.output.trans hC0.output), Nat.le_trans (Nat.le_trans hC0.size hC.size) hkD.size, fun k hk1 hk2 => (hkD.block k (by omega)).trans ((hC.block k (by omega) (by simp; omega)).trans (hC0.block k hk1 hk2))⟩
  case stop =>
    rintro D c pre M W _ _ _ _ h
    exact h.elim
set_option maxRecDepth 100000 in
/-- Chain: the refs of a domain's chain. -/
theorem Chain_any {w : World} {c : Nat} {S : List Nat} {t : Tab Dm} (h : DomAt w c S t) {i q : Int} {L : List (Int × Int)} (hU : Up t.par i q L) (hfit : Fit t.par) (hL : L.length ≤ 100000) (i0 : -9223372036854775808 ≤ i) (i1 : i ≤ 9223372036854775807) :
    Calls Try.prog 23 #[ptr c, .agg #[.int .i64 i, .int .u64 q]] w fun e w' => ∃ V, e = .returned V ∧ Row w' 34 2 V L.length (refCells L) ∧ (∀ k ∈ foot V, w.heap.size ≤ k) ∧ Chg [] w w' := by
  have HC : ∀ W rB dB, Blk W rB 34 #[.int .i64 i, .int .u64 q] → Blk W dB 26 #[ptr c] → Chg [] w W → Calls Try.prog 60 #[.func (.func 84) #[] #[ptr rB, ptr dB]] W fun e w' => ∃ V, e = .returned V ∧ Row w' 34 2 V L.length (refCells L) ∧ (∀ k ∈ foot V, W.heap.size ≤ k) ∧ Chg [] W w' := fun W rB dB hr hd hc => by
    have HA := (callsIn_wide (n := 8)).1 (appendSeq_in 8 (by omega) hr hd ⟨S, t, h.quiet hc, rfl⟩ hfit hU hL i0 i1)
    have HH := Lib.hid HA
    clear HA hr hd hc
    go_enter Try.func60, Try.ntmps60
    go_wp2_with (go_at_call 83; refine HH.out.mono ?_; rintro e w' ⟨V, rfl, hr, hf, hc⟩)
    go_ret
    exact ⟨V, rfl, hr, hf, hc⟩
  have HH := Lib.hid HC
  clear HC h
  go_enter Try.func23, Try.ntmps23
  go_wp2_with (first
    | (go_at_call 61; refine (chain_any _ _ _ _).mono ?_; rintro e w' ⟨rfl, rfl⟩)
    | (go_at_call 60; refine (HH.out _ _ _ (Blk.at' _ 34 _ (by simp)) ((Blk.at' _ 26 _ (by simp)).alloc _) (((Chg.refl [] w).alloc _ |>.alloc _).alloc _)).mono ?_; rintro e w' ⟨V, rfl, hr, hf, hc⟩))
  go_ret
  exact ⟨V, rfl, hr, fun k hk => by have := hf k hk; simp at this; omega, (((Chg.refl [] w).alloc _ |>.alloc _).alloc _).then hc⟩
end Go.Proofs
end
section
namespace Go.Proofs
open Go.RowKit
set_option linter.unusedVariables false
set_option linter.unusedSimpArgs false

/-- A domain whose numbers may be. -/
structure Dm.Ok (x : Dm) : Prop where
  gs : 0 ≤ x.gs ∧ x.gs ≤ 64
  cgs : 0 ≤ x.cgs ∧ x.cgs ≤ 64
  own : 0 ≤ x.own ∧ x.own ≤ 64
  live : 0 ≤ x.live ∧ x.live ≤ 64
  ch : 0 ≤ x.ch ∧ x.ch ≤ 64
  cpu : 0 ≤ x.cpu ∧ x.cpu ≤ 4294967296
  car : 0 ≤ x.car ∧ x.car ≤ x.cpu
  used : 0 ≤ x.used ∧ x.used < 18446744073709551616
theorem Dm.Ok.zero : dm0.Ok := by constructor <;> simp [dm0]
theorem Dm.Ok.sm {x : Dm} (h : x.Ok) : x.Sm := by
  obtain ⟨a, b, c, d, e, f, g, i⟩ := h
  constructor <;> omega
/-- Each domain's numbers may be, and each parent's place. -/
structure Tab.Oks (t : Tab Dm) : Prop where
  ok : ∀ i q, (t.at_ i q).Ok
  fit : Fit t.par
def settleT (more : Int) (i q : Int) (L : List (Int × Int)) (t : Tab Dm) : Tab Dm := updAll (fun x => { x with live := x.live + more }) L (t.upd i q (fun x => { x with own := x.own + more }))
set_option maxRecDepth 100000 in
set_option maxHeartbeats 1600000 in
theorem settle_any {w : World} {c : Nat} {S : List Nat} {t : Tab Dm} (h : DomAt w c S t) (hk : t.Oks) {i q : Int} {L : List (Int × Int)} (hU : Up t.par i q L) (i0 : -9223372036854775808 ≤ i) (i1 : i ≤ 9223372036854775807) (more : Int) (m0 : -1 ≤ more) (m1 : more ≤ 1) :
    Calls Try.prog 56 #[ptr c, .agg #[.int .i64 i, .int .u64 q], .int .i64 more] w fun e w' => e = .returned (.tuple #[]) ∧ DomAt w' c S (settleT more i q L t) ∧ Chg S w w' := by
  have hlt := h.lt
  have HA := Lib.hid (fun W M (hc : Chg [] w W) (hM : Blk W M 3 #[.int .i64 more]) => change_any (h.quiet hc) i q i0 i1 (settle_own W.heap.size M more) (Nat.le_refl _) (fun W' hW' => hM.chg hW' (by simp)) (fun _ => by have := (hk.ok i q).own; omega))
  have hpar : (t.upd i q (fun x => { x with own := x.own + more })).par = t.par := upd_par (fun x => ⟨rfl, rfl⟩)
  have HB := Lib.hid (fun W M (hD : DomAt W c S (t.upd i q (fun x => { x with own := x.own + more }))) (hM : Blk W M 3 #[.int .i64 more]) (hMS : M ∉ S) => changeChain_any hD (i := i) (q := q) (L := L) (by rw [hpar]; exact hU) (by rw [hpar]; exact hk.fit) i0 i1 (settle_live W.heap.size M more) (fun x => ⟨rfl, rfl⟩) (Nat.le_refl _) (fun W' hW' => hM.same (hW'.block _ ⟨hM.lt, hMS⟩)) (fun x hx => by
    have a := (hk.ok x.1 x.2).live
    have b := (hk.ok i q).live
    have e : ((t.upd i q (fun x => { x with own := x.own + more })).at_ x.1 x.2).live = (t.at_ x.1 x.2).live := by
      rw [upd_at]; split
      · rename_i h; rw [h.2.1, h.2.2]
      · rfl
    rw [e]; omega))
  have HL := Lib.hid (fun k (hk : k ∈ S) => hlt k (List.mem_cons_of_mem _ hk))
  obtain ⟨e0, he0⟩ : ∃ e0, e0 = staleE t i q := ⟨_, rfl⟩
  rw [← he0] at HA
  clear hlt hpar hU hk he0 h
  go_enter Try.func56, Try.ntmps56
  go_wp2_with (first
    | (go_at_call 51; refine (HA.out _ (w.heap.size + 1) (((Chg.refl _ _).alloc _).alloc _) (Blk.at' _ 3 _ (by simp))).mono ?_; rintro e w1 ⟨rfl, hd, hc⟩; have HD := Lib.hid hd; have HC := Lib.hid hc; have hn0 : w.heap.size ∉ S := (fun h => by have := HL.out _ h; omega); have hn1 : w.heap.size + 1 ∉ S := (fun h => by have := HL.out _ h; omega); have HN1 := Lib.hid hn1; have hM := (Blk.at' (w.alloc (obRef i q)) 3 #[.int .i64 more] (n := w.heap.size + 1) (by simp)).chg hc hn1; have HM := Lib.hid hM; have hR := ((Blk.new w 34 #[.int .i64 i, .int .u64 q]).alloc (.cells #[.int .i64 more] 3)).chg hc hn0; have r0 := hR.cell 0; have r1 := hR.cell 1; clear hd hc hn0 hn1 hM hR)
    | (go_at_call 80; refine (HB.out _ _ HD.out HM.out HN1.out).mono ?_; rintro e w2 ⟨rfl, hd2, hc2⟩; have HD2 := Lib.hid hd2; have HC2 := Lib.hid hc2; clear hd2 hc2))
  go_end0
  exact ⟨rfl, HD2.out, ((((Chg.refl [] w).alloc _).alloc _).any.trans HC.out (fun k hk => .inl hk)).trans HC2.out (fun k hk => .inl hk)⟩
def joinE (t : Tab Dm) (i q : Int) : Int := if t.has i q then (if (t.at_ i q).gs - (t.at_ i q).cgs - (t.at_ i q).own = 0 then 15 else 0) else 11
def leaveE (t : Tab Dm) (i q : Int) : Int := if t.has i q then (if (t.at_ i q).own = 0 then 5 else 0) else 11
set_option maxRecDepth 100000 in
set_option maxHeartbeats 1600000 in
theorem Join_any {w : World} {c : Nat} {S : List Nat} {t : Tab Dm} (h : DomAt w c S t) (hk : t.Oks) {i q : Int} {L : List (Int × Int)} (hU : Up t.par i q L) (i0 : -9223372036854775808 ≤ i) (i1 : i ≤ 9223372036854775807) :
    Calls Try.prog 19 #[ptr c, .agg #[.int .i64 i, .int .u64 q]] w fun e w' => e = .returned (.int .i64 (joinE t i q)) ∧ DomAt w' c S (if joinE t i q = 0 then settleT 1 i q L t else t) ∧ Chg S w w' := by
  have HG := Lib.hid (fun W (hW : Chg [] w W) => Get_any (h.quiet hW) i q i0 i1)
  have HRM := Lib.hid (fun W => room_any W (t.at_ i q) (hk.ok i q).sm)
  have HS := Lib.hid (fun W (hW : Chg [] w W) => settle_any (h.quiet hW) hk hU i0 i1 1 (by omega) (by omega))
  have HH := Lib.hid h
  unfold joinE
  obtain ⟨x, hx⟩ : ∃ x, x = t.at_ i q := ⟨_, rfl⟩
  rw [← hx] at HG HRM ⊢
  clear hx hk h
  cases hq : t.has i q with
  | false =>
    have e0 : staleE t i q = 11 := by unfold staleE; rw [hq]; rfl
    rw [e0] at HG
    clear e0 hq HS HRM hU
    simp only [Bool.false_eq_true, if_false, reduceCtorEq, Int.reduceEq]
    go_enter Try.func19, Try.ntmps19
    go_wp2_with (go_at_call 15; refine (HG.out _ ((Chg.refl _ _).alloc _)).mono ?_; rintro e w1 ⟨rfl, hc⟩; have HC := Lib.hid (((Chg.refl [] w).alloc _).then hc); clear hc)
    go_ret
    have hcc := HC.out.alloc (obX x)
    exact ⟨rfl, HH.out.quiet hcc, hcc.any⟩
  | true =>
    have e0 : staleE t i q = 0 := by unfold staleE; rw [hq]; rfl
    rw [e0] at HG
    clear e0 hq
    simp only [if_true]
    obtain ⟨rm, hrm⟩ : ∃ rm, rm = x.gs - x.cgs - x.own := ⟨_, rfl⟩
    rw [← hrm] at HRM ⊢
    clear hrm
    by_cases e1 : rm = 0
    · subst e1
      simp only [if_true, Int.reduceEq, if_false]
      clear HS hU
      go_enter Try.func19, Try.ntmps19
      go_wp2_with (first
        | (go_at_call 15; refine (HG.out _ ((Chg.refl _ _).alloc _)).mono ?_; rintro e w1 ⟨rfl, hc⟩; have HC := Lib.hid (((Chg.refl [] w).alloc _).then hc); have lw1 := hc.size; clear hc)
        | (go_at_call 50; refine (HRM.out _).mono ?_; rintro e w2 ⟨rfl, hc⟩; have HC2 := Lib.hid ((HC.out.alloc (obX x)).then hc); clear hc))
      go_ret
      exact ⟨rfl, HH.out.quiet HC2.out, HC2.out.any⟩
    · have hrb : (rm == 0) = false := by simpa using e1
      simp only [if_neg e1, if_true]
      go_enter Try.func19, Try.ntmps19
      go_wp2_with (first
        | (go_at_call 15; refine (HG.out _ ((Chg.refl _ _).alloc _)).mono ?_; rintro e w1 ⟨rfl, hc⟩; have HC := Lib.hid (((Chg.refl [] w).alloc _).then hc); have HR1 := Lib.hid ((Blk.new w 34 #[.int .i64 i, .int .u64 q]).chg hc (by simp)); clear hc)
        | (go_at_call 50; refine (HRM.out _).mono ?_; rintro e w2 ⟨rfl, hc⟩; have HC2 := Lib.hid ((HC.out.alloc (obX x)).then hc); have r0 := ((HR1.out.alloc (obX x)).chg hc (by simp)).cell 0; have r1 := ((HR1.out.alloc (obX x)).chg hc (by simp)).cell 1; clear hc)
        | (go_at_call 56; refine (HS.out _ HC2.out).mono ?_; rintro e w3 ⟨rfl, hd3, hc3⟩; have HD3 := Lib.hid hd3; have HC3 := Lib.hid hc3; clear hd3 hc3))
      go_ret
      exact ⟨rfl, HD3.out, HC2.out.any.trans HC3.out (fun k hk => .inl hk)⟩
end Go.Proofs
end
section
namespace Go.Proofs
open Go.RowKit
set_option linter.unusedVariables false
set_option linter.unusedSimpArgs false

set_option maxRecDepth 100000 in
set_option maxHeartbeats 1600000 in
theorem Leave_any {w : World} {c : Nat} {S : List Nat} {t : Tab Dm} (h : DomAt w c S t) (hk : t.Oks) {i q : Int} {L : List (Int × Int)} (hU : Up t.par i q L) (i0 : -9223372036854775808 ≤ i) (i1 : i ≤ 9223372036854775807) :
    Calls Try.prog 20 #[ptr c, .agg #[.int .i64 i, .int .u64 q]] w fun e w' => e = .returned (.int .i64 (leaveE t i q)) ∧ DomAt w' c S (if leaveE t i q = 0 then settleT (-1) i q L t else t) ∧ Chg S w w' := by
  have HG := Lib.hid (fun W (hW : Chg [] w W) => Get_any (h.quiet hW) i q i0 i1)
  have HS := Lib.hid (fun W (hW : Chg [] w W) => settle_any (h.quiet hW) hk hU i0 i1 (-1) (by omega) (by omega))
  have HH := Lib.hid h
  unfold leaveE
  obtain ⟨x, hx⟩ : ∃ x, x = t.at_ i q := ⟨_, rfl⟩
  rw [← hx] at HG ⊢
  clear hx hk h
  cases hq : t.has i q with
  | false =>
    have e0 : staleE t i q = 11 := by unfold staleE; rw [hq]; rfl
    rw [e0] at HG
    clear e0 hq HS hU
    simp only [Bool.false_eq_true, if_false, reduceCtorEq, Int.reduceEq]
    go_enter Try.func20, Try.ntmps20
    go_wp2_with (go_at_call 15; refine (HG.out _ ((Chg.refl _ _).alloc _)).mono ?_; rintro e w1 ⟨rfl, hc⟩; have HC := Lib.hid (((Chg.refl [] w).alloc _).then hc); clear hc)
    go_ret
    have hcc := HC.out.alloc (obX x)
    exact ⟨rfl, HH.out.quiet hcc, hcc.any⟩
  | true =>
    have e0 : staleE t i q = 0 := by unfold staleE; rw [hq]; rfl
    rw [e0] at HG
    clear e0 hq
    simp only [if_true]
    by_cases e1 : x.own = 0
    · have hrb : (x.own == 0) = true := by simpa using e1
      have E1 := Lib.hid e1
      rw [if_pos e1]
      simp only [Int.reduceEq, if_false]
      clear HS hU e1
      go_enter Try.func20, Try.ntmps20
      go_wp2_with (first
        | (go_at_call 15; refine (HG.out _ ((Chg.refl _ _).alloc _)).mono ?_; rintro e w1 ⟨rfl, hc⟩; have HC := Lib.hid (((Chg.refl [] w).alloc _).then hc); clear hc))
      go_ret
      have hcc := HC.out.alloc (obX x)
      exact ⟨rfl, HH.out.quiet hcc, hcc.any⟩
    · have hrb : (x.own == 0) = false := by simpa using e1
      simp only [if_neg e1, if_true]
      go_enter Try.func20, Try.ntmps20
      go_wp2_with (first
        | (go_at_call 15; refine (HG.out _ ((Chg.refl _ _).alloc _)).mono ?_; rintro e w1 ⟨rfl, hc⟩; have HC := Lib.hid (((Chg.refl [] w).alloc _).then hc); have hR1 := ((Blk.new w 34 #[.int .i64 i, .int .u64 q]).chg hc (by simp)); have r0 := (hR1.alloc (obX x)).cell 0; have r1 := (hR1.alloc (obX x)).cell 1; clear hc hR1)
        | (go_at_call 56; refine (HS.out _ (HC.out.alloc (obX x))).mono ?_; rintro e w3 ⟨rfl, hd3, hc3⟩; have HD3 := Lib.hid hd3; have HC3 := Lib.hid hc3; clear hd3 hc3))
      go_ret
      exact ⟨rfl, HD3.out, (HC.out.alloc (obX x)).any.trans HC3.out (fun k hk => .inl hk)⟩
set_option maxRecDepth 100000 in
theorem Use_any {w : World} {c : Nat} {S : List Nat} {t : Tab Dm} (h : DomAt w c S t) (hk : t.Oks) {i q : Int} (i0 : -9223372036854775808 ≤ i) (i1 : i ≤ 9223372036854775807) (n : Int) (n0 : 0 ≤ n) (n1 : n < 18446744073709551616) :
    Calls Try.prog 21 #[ptr c, .agg #[.int .i64 i, .int .u64 q], .int .u64 n] w fun e w' => e = .returned (.int .i64 (staleE t i q)) ∧ DomAt w' c S (t.upd i q (fun x => { x with used := addS x.used n })) ∧ Chg S w w' := by
  have HA := Lib.hid (fun W M (hc : Chg [] w W) (hM : Blk W M 22 #[.int .u64 n]) => change_any (h.quiet hc) i q i0 i1 (use_used W.heap.size M n n0 n1) (Nat.le_refl _) (fun W' hW' => hM.chg hW' (by simp)) (fun _ => (hk.ok i q).used))
  clear h hk
  obtain ⟨e0, he⟩ : ∃ e0, e0 = staleE t i q := ⟨_, rfl⟩
  rw [← he] at HA ⊢
  clear he
  go_enter Try.func21, Try.ntmps21
  go_wp2_with (go_at_call 51; refine (HA.out _ (w.heap.size + 1) (((Chg.refl _ _).alloc _).alloc _) (Blk.at' _ 22 _ (by simp))).mono ?_; rintro e w1 ⟨rfl, hd, hc⟩; have HD := Lib.hid hd; have HC := Lib.hid hc; clear hd hc)
  go_ret
  exact ⟨rfl, HD.out, (((Chg.refl [] w).alloc _).alloc _).any.trans HC.out (fun k hk => .inl hk)⟩
set_option maxRecDepth 100000 in
theorem Clear_any {w : World} {c : Nat} {S : List Nat} {t : Tab Dm} (h : DomAt w c S t) {i q : Int} (i0 : -9223372036854775808 ≤ i) (i1 : i ≤ 9223372036854775807) :
    Calls Try.prog 22 #[ptr c, .agg #[.int .i64 i, .int .u64 q]] w fun e w' => e = .returned (.int .i64 (staleE t i q)) ∧ DomAt w' c S (t.upd i q (fun x => { x with used := 0 })) ∧ Chg S w w' := by
  have HA := Lib.hid (fun W (hc : Chg [] w W) => change_any (h.quiet hc) i q i0 i1 (clear_used W.heap.size) (Nat.le_refl _) (fun W' hW' => trivial) (fun _ => trivial))
  clear h
  obtain ⟨e0, he⟩ : ∃ e0, e0 = staleE t i q := ⟨_, rfl⟩
  rw [← he] at HA ⊢
  clear he
  go_enter Try.func22, Try.ntmps22
  go_wp2_with (go_at_call 51; refine (HA.out _ (((Chg.refl _ _).alloc _))).mono ?_; rintro e w1 ⟨rfl, hd, hc⟩; have HD := Lib.hid hd; have HC := Lib.hid hc; clear hd hc)
  go_ret
  exact ⟨rfl, HD.out, ((Chg.refl [] w).alloc _).any.trans HC.out (fun k hk => .inl hk)⟩
set_option maxRecDepth 100000 in
theorem Share_any {w : World} {c : Nat} {S : List Nat} {t : Tab Dm} (h : DomAt w c S t) (hk : t.Oks) {i q : Int} (i0 : -9223372036854775808 ≤ i) (i1 : i ≤ 9223372036854775807) :
    Calls Try.prog 26 #[ptr c, .agg #[.int .i64 i, .int .u64 q]] w fun e w' => e = .returned (.tuple #[.int .i64 ((t.at_ i q).gs - (t.at_ i q).cgs), .int .u64 (subS (t.at_ i q).cpu (t.at_ i q).car), .int .i64 (staleE t i q)]) ∧ Chg [] w w' := by
  have HG := Lib.hid (fun W (hW : Chg [] w W) => Get_any (h.quiet hW) i q i0 i1)
  have HS := Lib.hid (fun W => share_any W (t.at_ i q) (hk.ok i q).sm)
  obtain ⟨e0, he⟩ : ∃ e0, e0 = staleE t i q := ⟨_, rfl⟩
  obtain ⟨x, hx⟩ : ∃ x, x = t.at_ i q := ⟨_, rfl⟩
  rw [← he, ← hx] at HG
  rw [← hx] at HS
  rw [← he, ← hx]
  obtain ⟨s0, hs0⟩ : ∃ s0, s0 = x.gs - x.cgs := ⟨_, rfl⟩
  obtain ⟨s1, hs1⟩ : ∃ s1, s1 = subS x.cpu x.car := ⟨_, rfl⟩
  rw [← hs0, ← hs1] at HS ⊢
  clear he hx h hk hs0 hs1
  go_enter Try.func26, Try.ntmps26
  go_wp2_with (first
    | (go_at_call 15; refine (HG.out _ ((Chg.refl _ _).alloc _)).mono ?_; rintro e w1 ⟨rfl, hc⟩; have HC := Lib.hid (((Chg.refl [] w).alloc _).then hc); clear hc)
    | (go_at_call 49; refine (HS.out _).mono ?_; rintro e w2 ⟨rfl, hc⟩; have HC2 := Lib.hid ((HC.out.alloc (obX x)).then hc); clear hc))
  exact bodyPost_ret (v := .tuple #[.int .i64 s0, .int .u64 s1, .int .i64 e0]) (by simp [results, Try.results26, go_sem]) rfl ⟨rfl, HC2.out⟩
set_option maxRecDepth 100000 in
theorem Root_any {w : World} {c : Nat} {S : List Nat} {t : Tab Dm} (h : DomAt w c S t) :
    Calls Try.prog 27 #[ptr c] w fun e w' => e = .returned (.agg #[.int .i64 (t.atIdx 0), .int .u64 (t.atGen 0)]) ∧ Chg [] w w' := by
  obtain ⟨g, hB, hT, hW⟩ := h
  have HP := Lib.hid (fun W (hc : Chg [] w W) => places_any (hB.chg hc (by simp)))
  have HA := Lib.hid (fun W (hc : Chg [] w W) => at_C (hT.quiet hc) hW 0 (by omega) (by omega))
  obtain ⟨a, ha⟩ : ∃ a, a = t.atIdx 0 := ⟨_, rfl⟩
  obtain ⟨b, hb⟩ : ∃ b, b = t.atGen 0 := ⟨_, rfl⟩
  obtain ⟨d, hd⟩ : ∃ d, d = t.atIs 0 := ⟨_, rfl⟩
  rw [← ha, ← hb, ← hd] at HA
  rw [← ha, ← hb]
  clear ha hb hd hB hT hW
  go_enter Try.func27, Try.ntmps27
  go_wp2_with (first
    | (go_at_call 44; refine (HP.out _ ((Chg.refl _ _).alloc _)).mono ?_; rintro e w1 ⟨rfl, rfl⟩)
    | (go_at_call 64; refine (HA.out _ ((Chg.refl _ _).alloc _)).mono ?_; rintro e w1 ⟨rfl, hc⟩; have hR1 := ((Blk.new w 34 #[.int .i64 0, .int .u64 0]).chg hc (by simp)); have r0 := hR1.cell 0; have r1 := hR1.cell 1; have rf := hR1.frozen; have lr := hR1.lt; have HC := Lib.hid (((Chg.refl [] w).alloc _).then hc); clear hc hR1))
  refine bodyPost_ret (v := .agg #[.int .i64 a, .int .u64 b]) ?_ rfl ⟨rfl, ?_⟩
  · simp [results, Try.results27, go_sem, r0, r1, lr]
  · repeat' (first | with_reducible exact HC.out | with_reducible apply Chg.alloc | with_reducible apply Chg.setCell | (with_reducible refine Or.inr ?_; dsimp only; omega))
end Go.Proofs
end
