import Derived.Test.YtgdjagbkpdndgaaGaI
import Derived.RangeFuncNested
import Derived.RangeFuncBound
import Derived.RangeFuncCalls
import Derived.RangeFuncLeaves
import Derived.RangeFuncFrom
import Derived.RangeFuncBox
import Derived.Shelf.Abstract
import Derived.Shelf.RegionOpen
import Derived.OwnWalkIn
import Derived.TacticsInMore
import Derived.LoopNIn
import Derived.LoopIn
import Derived.Sort.QuietIn
namespace Go.Proofs
open Go.RowKit Go.Shelf
set_option linter.unusedVariables false
attribute [local go_sem] Oper.semAt_some

/-- These blocks are as they were. -/
structure KeepL (L : List Nat) (A B : World) : Prop where
  size : A.heap.size ≤ B.heap.size
  block : ∀ k ∈ L, B.heap[k]? = A.heap[k]?
theorem KeepL.refl (L : List Nat) (A : World) : KeepL L A A := ⟨Nat.le_refl _, fun _ _ => rfl⟩
theorem KeepL.trans {L : List Nat} {A B C : World} (h : KeepL L A B) (k : KeepL L B C) : KeepL L A C := ⟨Nat.le_trans h.size k.size, fun i hi => (k.block i hi).trans (h.block i hi)⟩
theorem KeepL.chg {L : List Nat} {A B : World} (h : Chg [] A B) (hL : ∀ k ∈ L, k < A.heap.size) : KeepL L A B := ⟨h.size, fun k hk => h.block k (hL k hk) (by simp)⟩
theorem KeepL.cell {L : List Nat} {A B : World} (h : KeepL L A B) {p : Addr} (hp : p.block ∈ L) : B.cell? p = A.cell? p := World.cell?_of_block (h.block p.block hp)
theorem take_snoc {β : Type} (l : List β) (k : Nat) (x : β) (h : l[k]? = some x) : l.take (k + 1) = l.take k ++ [x] := by
  have hk := (List.getElem?_eq_some_iff.1 h).1
  rw [List.take_succ_eq_append_getElem hk, (List.getElem?_eq_some_iff.1 h).2]

/-- A node of the row. -/
abbrev Nd (N : List (Nat × Int)) := {p : Nat × Int // p ∈ N}
def Nd.encs {N : List (Nat × Int)} (p : Nd N) : Array Value := #[.pointer (some ⟨p.1.1, 0, none⟩)]
theorem att_len (N : List (Nat × Int)) : N.attach.length = N.length := List.length_attach
theorem att_at {N : List (Nat × Int)} {k : Nat} {p : Nat × Int} (h : N[k]? = some p) : N.attach[k]? = some ⟨p, List.mem_of_getElem? h⟩ := by
  obtain ⟨h1, h2⟩ := List.getElem?_eq_some_iff.1 h
  rw [List.getElem?_eq_getElem (by rw [List.length_attach]; exact h1)]
  simp [h2]
theorem at_att {N : List (Nat × Int)} {k : Nat} {p : Nd N} (h : N.attach[k]? = some p) : N[k]? = some p.1 := by
  have hk := (List.getElem?_eq_some_iff.1 h).1
  rw [att_len] at hk
  have := att_at (List.getElem?_eq_getElem hk)
  rw [this] at h
  rw [List.getElem?_eq_getElem hk, ← Option.some.inj h]
/-- How far a pointer is ahead of the row's end. -/
def aheadOf (N : List (Nat × Int)) : Value → Nat
  | .pointer (some a) => N.length - findAt (a.block : Nat) ((bl N).map Int.ofNat)
  | _ => 0
theorem ahead_at {N : List (Nat × Int)} (hn : (bl N).Nodup) {k b : Nat} (hk : nb N k = some b) : aheadOf N (.pointer (some ⟨b, 0, none⟩)) = N.length - k := by
  have h : ∀ j c, nb N j = some c → ((bl N).map Int.ofNat)[j]? = some ((c : Nat) : Int) := fun j c hj => by
    unfold nb at hj
    rw [Option.map_eq_some_iff] at hj
    obtain ⟨p, hp, rfl⟩ := hj
    rw [List.getElem?_map, bl_at hp]; rfl
  show N.length - findAt (b : Nat) ((bl N).map Int.ofNat) = _
  rw [findAt_first (k := k) (fun j hj he => ?_) (h k b hk)]
  rw [List.getElem?_map, Option.map_eq_some_iff] at he
  obtain ⟨c, hc, hcb⟩ := he
  obtain rfl : c = b := by have h9 : ((c : Nat) : Int) = ((b : Nat) : Int) := hcb; omega
  unfold bl at hc
  rw [List.getElem?_map, Option.map_eq_some_iff] at hc
  obtain ⟨p, hp, rfl⟩ := hc
  unfold nb at hk
  rw [Option.map_eq_some_iff] at hk
  obtain ⟨p', hp', e⟩ := hk
  have := at_one hn hp hp' e.symm
  omega

set_option maxRecDepth 100000 in
set_option maxHeartbeats 3200000 in
/-- The iterator that goes over the nodes. -/
theorem nodes1_in (n : Nat) (hn : 1 ≤ n) (l B q : Nat) (N : List (Nat × Int)) (w : World) (hV : w.cell? ⟨B, 0, none⟩ = some (.pointer (some ⟨q, 0, none⟩))) (hQ : QAt w q N)
    (J Jx : List (Nd N) → World → Prop) (W : World) (hW : KeepL (B :: q :: bl N) w W)
    (hY : ∀ pre x W1, J pre W1 → pre.length < N.length + 1 → YieldAt Fence.wide (n - 1) Try.prog l (Nd.encs x) W1 fun e W' =>
      (e = .returned (.bool true) ∧ J (pre ++ [x]) W' ∧ KeepL (B :: q :: bl N) W1 W') ∨ (e = .returned (.bool false) ∧ Jx (pre ++ [x]) W')) (h0 : J [] W) :
    CallsIn Fence.wide n Try.prog 41 #[.func (.yield l) #[] #[], .pointer (some ⟨B, 0, none⟩)] W fun e W' => (∃ v, e = .returned v) ∧ ((∃ ys, ys = N.attach ∧ J ys W') ∨ (∃ pre, pre <+: N.attach ∧ Jx pre W')) := by
  have hVW := (hW.cell (p := ⟨B, 0, none⟩) (by simp)).trans hV
  have c0 := (hW.cell (p := ⟨q, 0, none⟩) (by simp)).trans (hQ.queue.cell 0)
  simp only [List.getElem?_toArray, List.getElem?_cons_zero] at c0
  unfold ptrV at c0
  obtain ⟨m, hm⟩ : ∃ m, m = N.length := ⟨_, rfl⟩
  have HM := Lib.hid hm
  have HQ := Lib.hid hQ
  rw [← hm] at hY
  clear hm hQ
  refine callsIn_of_wp Try.func41 rfl trivial ?_ rfl
  simp only [Try.ntmps41, List.size_toArray, List.length_cons, List.length_nil, Nat.reduceAdd, Nat.reduceSub, Array.replicate_succ, Array.replicate_zero, List.push_toArray, List.append_toArray, List.nil_append, List.cons_append]
  gi_wp2
  gi_loopw [3] (fun nv wr => ∃ k : Nat, k ≤ m ∧ nv = .pointer ((nb N k).map fun b => ⟨b, 0, none⟩) ∧ KeepL (B :: q :: bl N) w wr ∧ J (N.attach.take k) wr) (fun nv wr => aheadOf N nv)
  case atStart => exact ⟨0, by omega, rfl, hW, h0⟩
  case round =>
    obtain ⟨k, hk, rfl, hB, hJk⟩ := hrel
    by_cases hlt : k < m
    · obtain ⟨⟨b, x⟩, hp⟩ : ∃ p, N[k]? = some p := ⟨_, List.getElem?_eq_getElem (by rw [← HM.out]; exact hlt)⟩
      have hnb := nb_at hp
      have hme := ahead_at HQ.out.nodup hnb
      have hnode := HQ.out.node k b x hp
      have d2 := hnode.cell 2
      unfold nodeV at d2
      simp only [List.getElem?_toArray, List.getElem?_cons_succ, List.getElem?_cons_zero] at d2
      unfold ptrV at d2
      rw [hnb]
      simp only [Option.map_some]
      obtain ⟨P, hP, hPe⟩ : ∃ P : Nd N, N.attach[k]? = some P ∧ Nd.encs P = #[.pointer (some ⟨b, 0, none⟩)] := ⟨_, att_at hp, rfl⟩
      have HS := Lib.hid (take_snoc N.attach k _ hP)
      have hlen : (N.attach.take k).length < m + 1 := by rw [List.length_take]; omega
      obtain ⟨fn, tmps, assign, body, hy, hRo⟩ := hY _ P _ hJk hlen
      rw [hPe] at hy
      have HB := Lib.hid hB
      have HME := Lib.hid hme
      have HNB := Lib.hid hnb
      have HD := Lib.hid (fun W' (h : KeepL (B :: q :: bl N) w W') => (h.cell (p := ⟨b, 2, none⟩) (by simp; exact .inr (.inr (nb_mem hnb)))).trans d2)
      clear hp hJk hB hme hnb hnode d2 hV hVW c0 hP hPe
      gi_wp2
      refine hRo.mono ?_
      rintro e W3 (⟨rfl, hJ3, hk3⟩ | ⟨rfl, hJx3⟩)
      · have d3 := HD.out _ (HB.out.trans hk3)
        gi_wp2
        go_roundw
        case rel => exact ⟨k + 1, by omega, rfl, HB.out.trans hk3, by rw [HS.out]; exact hJ3⟩
        case measure =>
          rw [HME.out]
          by_cases h9 : k + 1 < N.length
          · obtain ⟨⟨b', x'⟩, hp'⟩ : ∃ p, N[k + 1]? = some p := ⟨_, List.getElem?_eq_getElem h9⟩
            have h8 := nb_at hp'
            rw [h8]
            simp only [Option.map_some]
            rw [ahead_at HQ.out.nodup h8]
            omega
          · rw [nb_none (by omega)]
            have := HM.out
            simp only [Option.map_none, aheadOf]
            omega
      · gi_wp2
        refine bodyPost_ret (results_none rfl _ _ _) rfl ?_
        exact ⟨⟨_, rfl⟩, .inr ⟨_, by rw [← HS.out]; exact List.take_prefix _ _, hJx3⟩⟩
    · obtain rfl : k = m := by omega
      rw [nb_none (N := N) (k := k) (by rw [HM.out]; exact Nat.le_refl _)]
      simp only [Option.map_none]
      have HJ := Lib.hid hJk
      clear hV hVW c0
      gi_wp2
      go_end0
      exact ⟨⟨_, rfl⟩, .inl ⟨_, rfl, by have := HJ.out; rw [HM.out, ← att_len, List.take_length] at this; exact this⟩⟩
end Go.Proofs
