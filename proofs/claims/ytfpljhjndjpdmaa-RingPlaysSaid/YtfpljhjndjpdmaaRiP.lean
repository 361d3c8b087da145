import Derived.Test.YtfpljhjndjpdmaaRiH
import Derived.Test.YtfpljhjndjpdmaaRiO
namespace Go.Proofs
open Go.RowKit
set_option linter.unusedVariables false

/-! ### An act, plainly -/
/-- What an act makes of a row for which there is room for M. -/
def act (M : Int) (L : List Int) (k n : Int) : List Int :=
  if k = 1 then (if M ≤ L.length then L else L ++ [n])
  else if k = 2 then L.tail
  else if k = 3 then L.drop n.toNat
  else if k = 4 then L.eraseIdx (findAt n L)
  else L
theorem act_len (M : Int) (L : List Int) (k n : Int) : (act M L k n).length ≤ L.length + 1 := by
  unfold act
  split
  · split <;> simp
  · split
    · simp; omega
    · split
      · simp; omega
      · split
        · rw [List.length_eraseIdx]; split <;> omega
        · omega
/-- What a push answers. -/
def pushErr (M : Int) (L : List Int) : Int := if M ≤ L.length then 3 else 0
def pushed (M : Int) (L : List Int) (x : Int) : List Int := if M ≤ L.length then L else L ++ [x]
theorem push_any {w : World} {g h M : Nat} {L : List Int} (H : RingAt w g h M L) (x : Int) :
    Calls Try.prog 12 #[.pointer (some ⟨g, 0, none⟩), .int .i64 x] w fun e w' => e = .returned (.int .i64 (pushErr M L)) ∧ RingAt w' g h M (pushed M L x) ∧ Chg [g, h] w w' := by
  unfold pushErr pushed
  by_cases hm : L.length < M
  · rw [if_neg (by omega), if_neg (by omega)]
    exact push_room H x hm
  · rw [if_pos (by omega), if_pos (by omega)]
    exact (push_full H x hm).mono fun e w' ⟨h1, h2⟩ => ⟨h1, H.quiet h2, h2.any⟩
theorem rpush_any {w : World} {g : Nat} {S : List Nat} {M : Int} {L : List Int} (h : RefAt w g S M L) (hl : L.length ≤ 8192) (x : Int) :
    Calls Try.prog 23 #[.pointer (some ⟨g, 0, none⟩), .int .i64 x] w fun e w' => e = .returned (.int .i64 (pushErr M L)) ∧ RTurns g S M (pushed M L x) w w' := by
  unfold pushErr pushed
  by_cases hm : M ≤ L.length
  · rw [if_pos hm, if_pos hm]
    exact (rpush_full h x hm).mono fun e w' ⟨h1, h2⟩ => ⟨h1, RTurns.refl h h2⟩
  · rw [if_neg hm, if_neg hm]
    exact rpush_room h x hm hl
theorem eraseIdx_none {L : List Int} {x : Int} (h : ¬ findAt x L < L.length) : L.eraseIdx (findAt x L) = L := List.eraseIdx_of_length_le (by omega)
theorem RingAt.small {w : World} {g h M : Nat} {L : List Int} (H : RingAt w g h M L) : L.length ≤ 4096 := by
  obtain ⟨zs, f, c, hl, _⟩ := H
  have := hl.many
  have := hl.z1
  omega
theorem remove_any {w : World} {g h M : Nat} {L : List Int} (H : RingAt w g h M L) (x : Int) :
    Calls Try.prog 19 #[.pointer (some ⟨g, 0, none⟩), .int .i64 x] w fun e w' => e = .returned (.bool (decide (findAt x L < L.length))) ∧ RingAt w' g h M (L.eraseIdx (findAt x L)) ∧ Chg [g, h] w w' := by
  by_cases hx : findAt x L < L.length
  · rw [decide_eq_true hx]
    exact remove_yes H x hx
  · rw [decide_eq_false hx, eraseIdx_none hx]
    exact (remove_no (by have := H.small; omega) H.has x hx).mono fun e w' ⟨h1, h2⟩ => ⟨h1, H.quiet h2, h2.any⟩
theorem rremove_any {w : World} {g : Nat} {S : List Nat} {M : Int} {L : List Int} (h : RefAt w g S M L) (hl : L.length ≤ 8192) (x : Int) :
    Calls Try.prog 25 #[.pointer (some ⟨g, 0, none⟩), .int .i64 x] w fun e w' => e = .returned (.bool (decide (findAt x L < L.length))) ∧ RTurns g S M (L.eraseIdx (findAt x L)) w w' := by
  by_cases hx : findAt x L < L.length
  · rw [decide_eq_true hx]
    exact rremove_yes h hl x hx
  · rw [decide_eq_false hx, eraseIdx_none hx]
    exact (rremove_no h hl x hx).mono fun e w' ⟨h1, h2⟩ => ⟨h1, by subst h2; exact RTurns.refl h (Chg.refl _ _)⟩

/-! ### The code's ring, and the document's, apart in memory -/
structure Two (w : World) (g h r : Nat) (S : List Nat) (M : Nat) (N : Int) (L K : List Int) : Prop where
  ring : RingAt w g h M L
  ref : RefAt w r S N K
  apart : ∀ k ∈ [g, h], k ∉ S
def Does (g h r : Nat) (S : List Nat) (M : Nat) (N : Int) (L K : List Int) (w w' : World) : Prop :=
  ∃ S', Two w' g h r S' M N L K ∧ (∀ k ∈ S', k ∈ S ∨ w.heap.size ≤ k) ∧ Chg [g, h, r] w w'
section
variable {w w1 w2 : World} {g h r M : Nat} {S : List Nat} {N : Int} {L L' K K' : List Int}
theorem Two.quiet (H : Two w g h r S M N L K) (hc : Chg [] w w1) : Two w1 g h r S M N L K := ⟨H.ring.quiet hc, H.ref.quiet hc, H.apart⟩
theorem Two.ringTurns (H : Two w g h r S M N L K) (hR : RingAt w1 g h M L') (hc : Chg [g, h] w w1) : Two w1 g h r S M N L' K := ⟨hR, H.ref.chg hc (fun k hk hm => H.apart k hm hk), H.apart⟩
theorem Two.refTurns (H : Two w g h r S M N L K) (hT : RTurns r S N K' w w1) : ∃ S', Two w1 g h r S' M N L K' ∧ (∀ k ∈ S', k ∈ S ∨ w.heap.size ≤ k) := by
  obtain ⟨S', h1, h2, h3⟩ := hT
  have hm := H.ref.mem
  refine ⟨S', ⟨H.ring.chg h3 (fun k hk he => ?_), h1, fun k hk hS => ?_⟩, h2⟩
  · simp at he
    subst he
    exact H.apart k hk hm
  · rcases h2 k hS with h9 | h9
    · exact H.apart k hk h9
    · have := H.ring.lt k hk; omega
theorem Two.does (H : Two w g h r S M N L K) (hc : Chg [] w w1) : Does g h r S M N L K w w1 := ⟨S, H.quiet hc, fun k hk => .inl hk, hc.any⟩
theorem Does.later (H : Does g h r S M N L K w w1) (hc : Chg [] w1 w2) : Does g h r S M N L K w w2 := by
  obtain ⟨S', h1, h2, h3⟩ := H
  exact ⟨S', h1.quiet hc, h2, h3.then hc⟩
/-- A call on the ring, then one on the document's. -/
theorem Two.step {wa wb w3 : World} (H : Two w g h r S M N L K) (ha : Chg [] w wa) (hR : RingAt w1 g h M L') (h1 : Chg [g, h] wa w1) (hb : Chg [] w1 wb) (hT : RTurns r S N K' wb w2) (hc : Chg [] w2 w3) : Does g h r S M N L' K' w w3 := by
  have z1 : w.heap.size ≤ w1.heap.size := Nat.le_trans ha.size h1.size
  have hT3 := ((H.quiet ha).ringTurns hR h1).quiet hb
  obtain ⟨S', h4, h5⟩ := hT3.refTurns hT
  obtain ⟨_, _, _, h6⟩ := hT
  refine ⟨S', h4.quiet hc, fun k hk => (h5 k hk).imp id (fun h9 => ?_), ?_⟩
  · have := hb.size; omega
  · have e1 : Chg [g, h, r] w w1 := (Chg.any ha).trans h1 (fun k hk => .inl (by simp at hk ⊢; rcases hk with h9 | h9 <;> simp [h9]))
    exact ((e1.then hb).trans h6 (fun k hk => .inl (by simp at hk ⊢; simp [hk]))).then hc
end
/-- A bool is told, and it is true where it is said to be. -/
def Told (b : Prop) (e : Ending) : Prop := ∃ v : Bool, e = .returned (.bool v) ∧ (b → v = true)
theorem Told.mono {b c : Prop} {e : Ending} (h : Told b e) (hc : c → b) : Told c e := by
  obtain ⟨v, h1, h2⟩ := h
  exact ⟨v, h1, fun h => h2 (hc h)⟩
end Go.Proofs
