import Derived.Test.YtgdjagbkpdndgaaGaE
namespace Go.Proofs
open Go.RowKit
set_option linter.unusedVariables false

/-! ### A row of nodes that point at one another -/
/-- A pointer at a node's block, or nil. -/
def ptrV (o : Option Nat) : Value := .pointer (o.map fun b => ⟨b, 0, none⟩)
theorem ptrV_none : ptrV none = .pointer none := rfl
theorem ptrV_some (b : Nat) : ptrV (some b) = .pointer (some ⟨b, 0, none⟩) := rfl
/-- The block of the node at place k. -/
def nb (N : List (Nat × Int)) (k : Nat) : Option Nat := (N[k]?).map Prod.fst
/-- The block of the node ahead of place k. -/
def ab (N : List (Nat × Int)) (k : Nat) : Option Nat := if k = 0 then none else nb N (k - 1)
/-- The blocks. -/
def bl (N : List (Nat × Int)) : List Nat := N.map Prod.fst
/-- The numbers. -/
def nu (N : List (Nat × Int)) : List Int := N.map Prod.snd
theorem nu_len (N : List (Nat × Int)) : (nu N).length = N.length := by simp [nu]
theorem bl_len (N : List (Nat × Int)) : (bl N).length = N.length := by simp [bl]
theorem nb_none {N : List (Nat × Int)} {k : Nat} (h : N.length ≤ k) : nb N k = none := by unfold nb; rw [List.getElem?_eq_none h]; rfl
theorem nb_at {N : List (Nat × Int)} {k : Nat} {p : Nat × Int} (h : N[k]? = some p) : nb N k = some p.1 := by unfold nb; rw [h]; rfl
theorem nb_mem {N : List (Nat × Int)} {k b : Nat} (h : nb N k = some b) : b ∈ bl N := by
  unfold nb at h
  rw [Option.map_eq_some_iff] at h
  obtain ⟨p, hp, rfl⟩ := h
  exact List.mem_map.2 ⟨p, List.mem_of_getElem? hp, rfl⟩
theorem bl_at {N : List (Nat × Int)} {k : Nat} {p : Nat × Int} (h : N[k]? = some p) : (bl N)[k]? = some p.1 := by unfold bl; rw [List.getElem?_map, h]; rfl
theorem nu_at {N : List (Nat × Int)} {k : Nat} {p : Nat × Int} (h : N[k]? = some p) : (nu N)[k]? = some p.2 := by unfold nu; rw [List.getElem?_map, h]; rfl
/-- Two places of one block are one place. -/
theorem at_one {N : List (Nat × Int)} (hn : (bl N).Nodup) {j k : Nat} {p p' : Nat × Int} (hj : N[j]? = some p) (hk : N[k]? = some p') (h : p.1 = p'.1) : j = k := by
  obtain ⟨hj1, hj2⟩ := List.getElem?_eq_some_iff.1 (bl_at hj)
  obtain ⟨hk1, hk2⟩ := List.getElem?_eq_some_iff.1 (bl_at hk)
  have hp := List.pairwise_iff_getElem.1 hn
  rcases Nat.lt_trichotomy j k with h1 | h1 | h1
  · exact absurd (hj2.trans (h.trans hk2.symm)) (hp j k hj1 hk1 h1)
  · exact h1
  · exact absurd (hk2.trans (h.symm.trans hj2.symm)) (hp k j hk1 hj1 h1)

/-- The node at place k. -/
def nodeV (N : List (Nat × Int)) (k : Nat) (x : Int) : Array Value := #[.int .i64 x, ptrV (ab N k), ptrV (nb N (k + 1))]
/-- The queue at block q has the nodes N. -/
structure QAt (w : World) (q : Nat) (N : List (Nat × Int)) : Prop where
  queue : Blk w q 51 #[ptrV (nb N 0), ptrV (nb N (N.length - 1)), .int .i64 (N.length : Nat)]
  nodup : (bl N).Nodup
  node : ∀ k b x, N[k]? = some (b, x) → Blk w b 63 (nodeV N k x)
section
variable {w w' : World} {q : Nat} {N : List (Nat × Int)}
theorem QAt.lt (H : QAt w q N) : ∀ k ∈ q :: bl N, k < w.heap.size := by
  intro k hk
  rcases List.mem_cons.1 hk with rfl | hk
  · exact H.queue.lt
  · obtain ⟨p, hp, rfl⟩ := List.mem_map.1 hk
    obtain ⟨i, hi⟩ := List.mem_iff_getElem?.1 hp
    exact (H.node i p.1 p.2 hi).lt
theorem QAt.same (H : QAt w q N) (h : ∀ k ∈ q :: bl N, w'.heap[k]? = w.heap[k]?) : QAt w' q N :=
  ⟨H.queue.same (h q (by simp)), H.nodup, fun k b x hk => (H.node k b x hk).same (h b (List.mem_cons_of_mem _ (nb_mem (nb_at hk))))⟩
theorem QAt.chg {S : List Nat} (H : QAt w q N) (hc : Chg S w w') (hn : ∀ k ∈ q :: bl N, k ∉ S) : QAt w' q N :=
  H.same fun k hk => hc.block k (H.lt k hk) (hn k hk)
theorem QAt.quiet (H : QAt w q N) (hc : Chg [] w w') : QAt w' q N := H.chg hc (fun _ _ hk => by cases hk)
theorem QAt.new (w : World) : QAt (w.alloc (.cells #[.pointer none, .pointer none, .int .i64 0] 51)) w.heap.size [] :=
  ⟨Blk.new w 51 _, List.nodup_nil, fun k b x hk => by simp at hk⟩
theorem QAt.not_node (H : QAt w q N) : q ∉ bl N := fun hm => by
  obtain ⟨p, hp, e⟩ := List.mem_map.1 hm
  obtain ⟨i, hi⟩ := List.mem_iff_getElem?.1 hp
  exact Blk.ty H.queue (H.node i p.1 p.2 hi) (by decide) e.symm
/-- One more at the end. -/
theorem QAt.joined {b : Nat} {x : Int} (H : QAt w q N) (hb : b ∉ bl N) (hq : Blk w' q 51 #[ptrV (nb (N ++ [(b, x)]) 0), ptrV (some b), .int .i64 ((N.length + 1 : Nat))])
    (hn : ∀ k c y, N[k]? = some (c, y) → Blk w' c 63 #[.int .i64 y, ptrV (ab N k), ptrV (if k + 1 = N.length then some b else nb N (k + 1))])
    (hx : Blk w' b 63 #[.int .i64 x, ptrV (nb N (N.length - 1)), .pointer none]) : QAt w' q (N ++ [(b, x)]) := by
  have e1 : ∀ k, k < N.length → nb (N ++ [(b, x)]) k = nb N k := fun k hk => by unfold nb; rw [List.getElem?_append_left hk]
  have e2 : nb (N ++ [(b, x)]) N.length = some b := by unfold nb; simp
  have e3 : ∀ k, k < N.length → ab (N ++ [(b, x)]) k = ab N k := fun k hk => by
    unfold ab
    by_cases h : k = 0
    · simp [h]
    · rw [if_neg h, if_neg h, e1 _ (by omega)]
  refine ⟨?_, ?_, fun k c y hk => ?_⟩
  · have : (N ++ [(b, x)]).length - 1 = N.length := by simp
    rw [this, e2, List.length_append]
    exact hq
  · show ((N ++ [(b, x)]).map Prod.fst).Nodup
    rw [List.map_append, List.nodup_append]
    refine ⟨H.nodup, by simp, fun a ha c hc => ?_⟩
    simp at hc
    subst hc
    exact fun e => hb (e ▸ ha)
  · unfold nodeV
    by_cases hl : k < N.length
    · rw [List.getElem?_append_left hl] at hk
      rw [e3 k hl]
      have := hn k c y hk
      by_cases h2 : k + 1 = N.length
      · rw [if_pos h2] at this
        rw [h2, e2]
        exact this
      · rw [if_neg h2] at this
        rw [e1 _ (by omega)]
        exact this
    · have hk' := (List.getElem?_eq_some_iff.1 hk).1
      simp at hk'
      obtain rfl : k = N.length := by omega
      rw [List.getElem?_append_right (Nat.le_refl _), Nat.sub_self] at hk
      simp at hk
      obtain ⟨rfl, rfl⟩ := hk
      have e4 : ab (N ++ [(b, x)]) N.length = nb N (N.length - 1) := by
        unfold ab
        by_cases h : N.length = 0
        · rw [if_pos h, nb_none (by omega)]
        · rw [if_neg h, e1 _ (by omega)]
      rw [e4, nb_none (N := N ++ [(b, x)]) (k := N.length + 1) (by simp)]
      exact hx
/-- One of them goes. -/
theorem QAt.left {k b : Nat} {x : Int} (H : QAt w q N) (hk : N[k]? = some (b, x))
    (hq : Blk w' q 51 #[ptrV (if k = 0 then nb N 1 else nb N 0), ptrV (if k + 1 = N.length then ab N k else nb N (N.length - 1)), .int .i64 ((N.length - 1 : Nat))])
    (hn : ∀ j c y, j ≠ k → N[j]? = some (c, y) → Blk w' c 63 #[.int .i64 y, ptrV (if j = k + 1 then ab N k else ab N j), ptrV (if j + 1 = k then nb N (k + 1) else nb N (j + 1))]) : QAt w' q (N.eraseIdx k) := by
  have hl := (List.getElem?_eq_some_iff.1 hk).1
  have e1 : ∀ j, nb (N.eraseIdx k) j = if j < k then nb N j else nb N (j + 1) := fun j => by
    unfold nb
    rw [List.getElem?_eraseIdx]
    split <;> rfl
  have e2 : ∀ j, j ≠ 0 → ab (N.eraseIdx k) j = if j - 1 < k then nb N (j - 1) else nb N j := fun j hj => by
    unfold ab
    rw [if_neg hj, e1]
    split
    · rfl
    · rw [show j - 1 + 1 = j by omega]
  have e3 : (N.eraseIdx k).length = N.length - 1 := by rw [List.length_eraseIdx, if_pos hl]
  refine ⟨?_, ?_, fun j c y hj => ?_⟩
  · rw [e3, e1 0]
    have h1 : (if 0 < k then nb N 0 else nb N (0 + 1)) = if k = 0 then nb N 1 else nb N 0 := by
      by_cases h : k = 0
      · simp [h]
      · rw [if_pos (by omega), if_neg h]
    have h2 : nb (N.eraseIdx k) (N.length - 1 - 1) = if k + 1 = N.length then ab N k else nb N (N.length - 1) := by
      rw [e1]
      by_cases h : k + 1 = N.length
      · rw [if_pos h]
        unfold ab
        by_cases h0 : k = 0
        · rw [if_pos h0, if_neg (by omega), nb_none (by omega)]
        · rw [if_neg h0, if_pos (by omega), show N.length - 1 - 1 = k - 1 by omega]
      · rw [if_neg h, if_neg (by omega), show N.length - 1 - 1 + 1 = N.length - 1 by omega]
    rw [h1, h2]
    exact hq
  · refine H.nodup.sublist ?_
    unfold bl
    exact (List.eraseIdx_sublist N k).map _
  · unfold nodeV
    rw [List.getElem?_eraseIdx] at hj
    by_cases hjk : j < k
    · rw [if_pos hjk] at hj
      have := hn j c y (by omega) hj
      rw [if_neg (by omega)] at this
      have h1 : ab (N.eraseIdx k) j = ab N j := by
        by_cases h0 : j = 0
        · subst h0; rfl
        · rw [e2 j h0, if_pos (by omega)]
          unfold ab
          rw [if_neg h0]
      have h2 : nb (N.eraseIdx k) (j + 1) = if j + 1 = k then nb N (k + 1) else nb N (j + 1) := by
        rw [e1]
        by_cases h : j + 1 = k
        · rw [if_pos h, if_neg (by omega), h]
        · rw [if_neg h, if_pos (by omega)]
      rw [h1, h2]
      exact this
    · rw [if_neg hjk] at hj
      have := hn (j + 1) c y (by omega) hj
      rw [if_neg (show ¬ j + 1 + 1 = k by omega)] at this
      have h1 : ab (N.eraseIdx k) j = if j + 1 = k + 1 then ab N k else ab N (j + 1) := by
        by_cases h0 : j = 0
        · subst h0
          obtain rfl : k = 0 := by omega
          rw [if_pos rfl]; rfl
        · rw [e2 j h0]
          by_cases h : j = k
          · subst h
            rw [if_pos (by omega), if_pos rfl]
            unfold ab
            rw [if_neg h0]
          · rw [if_neg (by omega), if_neg (by omega)]
            unfold ab
            rw [if_neg (by omega), Nat.add_sub_cancel]
      have h2 : nb (N.eraseIdx k) (j + 1) = nb N (j + 1 + 1) := by rw [e1, if_neg (by omega)]
      rw [h1, h2]
      exact this
end
end Go.Proofs
