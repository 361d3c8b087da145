import Derived.Test.YtoddffpbbnicpaaRvB
namespace Go.Proofs
open Go.RowKit
set_option linter.unusedVariables false

/-! ### The code's queue, and the document's, apart in memory -/
structure Two (w : World) (q g h r : Nat) (S : List Nat) (M : Nat) (L : List Int) (N : Option Int) : Prop where
  queue : QueueAt w q g h M L N
  ref : RefAt w r S M L N
  apart : ∀ k ∈ [q, g, h], k ∉ S
def Does (q g h r : Nat) (S : List Nat) (M : Nat) (L : List Int) (N : Option Int) (w w' : World) : Prop :=
  ∃ S', Two w' q g h r S' M L N ∧ (∀ k ∈ S', k ∈ S ∨ w.heap.size ≤ k) ∧ Chg [q, g, h, r] w w'
section
variable {w w1 w2 : World} {q g h r M : Nat} {S : List Nat} {L L' : List Int} {N N' : Option Int}
theorem Two.quiet (H : Two w q g h r S M L N) (hc : Chg [] w w1) : Two w1 q g h r S M L N := ⟨H.queue.quiet hc, H.ref.quiet hc, H.apart⟩
theorem Two.does (H : Two w q g h r S M L N) (hc : Chg [] w w1) : Does q g h r S M L N w w1 := ⟨S, H.quiet hc, fun k hk => .inl hk, hc.any⟩
theorem Two.rest (H : Two w q g h r S M L N) (hc : Chg [q, g, h] w w1) : RefAt w1 r S M L N := H.ref.chg hc (fun k hk hm => H.apart k hm hk)
theorem Two.small (H : Two w q g h r S M L N) : L.length ≤ 4096 ∧ L.length ≤ M ∧ 2 ≤ M ∧ M ≤ 4096 := ⟨H.queue.small.1, H.queue.small.2.1, H.queue.2.2, H.queue.small.2.2⟩
theorem Does.later (H : Does q g h r S M L N w w1) (hc : Chg [] w1 w2) : Does q g h r S M L N w w2 := by
  obtain ⟨S', h1, h2, h3⟩ := H
  exact ⟨S', h1.quiet hc, h2, h3.then hc⟩
/-- A call on the queue, then one on the document's. -/
theorem Two.step {wa wb w3 : World} (H : Two w q g h r S M L N) (ha : Chg [] w wa) (hQ : QueueAt w1 q g h M L' N') (h1 : Chg [q, g, h] wa w1) (hb : Chg [] w1 wb) (hT : RTurns r S M L' N' wb w2) (hc : Chg [] w2 w3) : Does q g h r S M L' N' w w3 := by
  obtain ⟨S', t1, t2, t3⟩ := hT
  have hm := H.ref.mem
  have hlt := H.queue.lt
  have z1 := ha.size
  have z2 := h1.size
  have z3 := hb.size
  have e1 : Chg [q, g, h, r] w wb := (((Chg.any ha).trans h1 (fun k hk => .inl hk)).then hb).mono (fun k hk => .inl (by simp at hk ⊢; rcases hk with h9 | h9 | h9 <;> simp [h9]))
  refine ⟨S', ⟨((hQ.quiet hb).chg t3 (fun k hk he => ?_)).quiet hc, t1.quiet hc, fun k hk hS => ?_⟩, fun k hk => (t2 k hk).imp id (fun h9 => by omega), (e1.trans t3 (fun k hk => .inl (by simp at hk ⊢; simp [hk]))).then hc⟩
  · simp at he; subst he; exact H.apart k hk hm
  · rcases t2 k hS with h9 | h9
    · exact H.apart k hk h9
    · have := hlt k hk; omega
end
/-! ### An act that came in -/
structure ActV where
  kind : Int
  g : Int
  yes : Bool
  aff : List Int
  V : Value
structure ActV.Fits (w : World) (T : Nat) (a : ActV) : Prop where
  g0 : -9223372036854775808 ≤ a.g
  g1 : a.g ≤ 9223372036854775807
  bs : Bs w a.V a.aff
  far : a.aff = [] ∨ ∀ k ∈ foot a.V, k < T
def ActV.val (a : ActV) : Value := .agg #[.int .i64 a.kind, .int .i64 a.g, .bool a.yes, a.V]
theorem ActV.Fits.chg {S : List Nat} {w w' : World} {T : Nat} {a : ActV} (h : a.Fits w T) (hc : Chg S w w') (hS : ∀ k ∈ S, T ≤ k) : a.Fits w' T :=
  ⟨h.g0, h.g1, h.bs.chg hc (h.far.imp id (fun hh k hk hm => by have := hh k hk; have := hS k hm; omega)), h.far⟩
/-- Nobody stands twice. -/
def Nd (L : List Int) (N : Option Int) : Prop := (N.toList ++ L).Nodup
section
variable {w : World} {q g h r M : Nat} {S : List Nat} {L : List Int} {N : Option Int}
theorem hasQ_mem {L : List Int} {N : Option Int} {x : Int} : hasQ L N x = true ↔ x ∈ N.toList ++ L := by
  have hfa : ∀ l : List Int, findAt x l < l.length ↔ x ∈ l := fun l => by
    constructor
    · intro h; exact List.mem_of_getElem? (findAt_mem h)
    · intro h
      refine Decidable.byContradiction fun hn => ?_
      obtain ⟨i, hi, e⟩ := List.mem_iff_getElem.1 h
      have hle := findAt_le x l
      have hall : ∀ (l : List Int), findAt x l = l.length → x ∉ l := by
        intro l
        induction l with
        | nil => simp
        | cons y l ih =>
          intro h9 hm
          unfold findAt at h9
          split at h9
          · simp at h9
          · rename_i hne
            rcases List.mem_cons.1 hm with e | e
            · exact hne e.symm
            · exact ih (by simpa using h9) e
      exact hall l (by omega) h
  unfold hasQ
  rw [Bool.or_eq_true, decide_eq_true_iff, decide_eq_true_iff, hfa, List.mem_append]
  cases N <;> simp [eq_comm]
theorem hasQ_not {L : List Int} {N : Option Int} {x : Int} (h : hasQ L N x = false) : x ∉ N.toList ++ L := fun hm => by rw [hasQ_mem.2 hm] at h; cases h
theorem Nd.put {x : Int} (h : Nd L N) (hx : x ∉ N.toList ++ L) : Nd (putL M L x) N := by
  unfold Nd putL at *
  split
  · rw [← List.append_assoc, List.nodup_append]
    refine ⟨h, by simp, fun a ha b hb => ?_⟩
    simp at hb
    subst hb
    exact fun e => hx (e ▸ ha)
  · exact h.sublist ((List.Sublist.refl _).append (List.drop_sublist _ _))
theorem Nd.kick (h : Nd L N) : Nd (kickL M L N) none := by
  cases N with
  | none => exact h
  | some y =>
    unfold Nd at h
    simp only [Option.toList_some, List.cons_append, List.nil_append, List.nodup_cons] at h
    exact Nd.put (N := none) (by unfold Nd; simpa using h.2) (by simpa using h.1)
theorem kick_mem {x : Int} (h : x ∈ kickL M L N) : x ∈ N.toList ++ L := by
  cases N with
  | none =>
    have h' : x ∈ L := h
    simpa using h'
  | some y =>
    simp only [kickL, putL] at h
    split at h
    · simp at h ⊢; rcases h with h | h <;> simp [h]
    · simp; exact .inr (List.mem_of_mem_drop h)
theorem Nd.putNext {x : Int} (h : Nd L N) (hx : x ∉ N.toList ++ L) : Nd (kickL M L N) (some x) := by
  have := Nd.kick (M := M) h
  unfold Nd at this ⊢
  simp only [Option.toList_none, List.nil_append] at this
  simp only [Option.toList_some, List.cons_append, List.nil_append, List.nodup_cons]
  exact ⟨fun hm => hx (kick_mem hm), this⟩
theorem Nd.tail (h : Nd L none) : Nd L.tail none := by
  unfold Nd at *
  exact h.sublist ((List.Sublist.refl _).append (List.tail_sublist _))
theorem Nd.remove (h : Nd L N) (x : Int) : Nd (remL L N x) (remN N x) := by
  unfold Nd remL remN at *
  split
  · exact h.sublist (by simp)
  · exact h.sublist ((List.Sublist.refl _).append (List.eraseIdx_sublist _ _))
theorem rst_sub (f : Int → Bool) (k : Nat) (l : List Int) : (rst f k l).Sublist l := by
  induction l generalizing k with
  | nil => cases k <;> exact List.Sublist.refl _
  | cons x l ih =>
    cases k with
    | zero => rw [rst_zero]; exact List.Sublist.refl _
    | succ k =>
      unfold rst
      split
      · exact (ih k).cons _
      · exact (ih (k + 1)).cons_cons _
theorem optf_sub (N : Option Int) (f : Int → Bool) : (N.filter f).toList.Sublist N.toList := by
  cases N with
  | none => exact List.Sublist.refl _
  | some y => by_cases h : f y = true <;> simp [Option.filter, h]
theorem Nd.steal (h : Nd L N) (f : Int → Bool) : Nd (stealL f L) (stealN f L N) := by
  unfold Nd stealL stealN at *
  split
  · exact h.sublist ((optf_sub _ _).append (rst_sub _ _ _))
  · exact h.sublist ((List.Sublist.refl _).append (rst_sub _ _ _))
end
end Go.Proofs
