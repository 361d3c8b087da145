import Derived.Test.YtelkndhifkmpiaaHf
namespace Go.Proofs
open Go.RowKit
set_option linter.unusedVariables false

theorem HeapAt.once {w : World} {g p : Nat} {S : List Nat} {x : Tm} {K : List Tm} (H : HeapAt w g S (x :: K) p) : hasId K x.id = false := by
  rcases H with ⟨_, hK, _⟩ | ⟨h, b, c, m, ts, ⟨f, HB, hP, hI⟩, h1, h2, rfl⟩
  · cases hK
  · cases e : hasId K x.id with
    | false => rfl
    | true =>
      exfalso
      obtain ⟨y, hy, hid⟩ := hasId_iff.1 e
      obtain ⟨i, hil, hix⟩ := List.mem_iff_getElem.1 (h1.perm.mem_iff.2 (List.mem_cons_of_mem x hy))
      obtain ⟨j, hjl, hjx⟩ := List.mem_iff_getElem.1 (h1.perm.mem_iff.2 (show x ∈ x :: K by simp))
      have hi : ts[i]? = some y := by rw [List.getElem?_eq_getElem hil, hix]
      have hj : ts[j]? = some x := by rw [List.getElem?_eq_getElem hjl, hjx]
      have := hP.inj hi hj hid
      subst this
      rw [hi] at hj
      have hxy := Option.some.inj hj
      subst hxy
      exact Tm.irrefl y ((List.pairwise_cons.1 h1.sorted).1 y hy)
/-- While it is drained: k are popped of those that stood in V; the document's stays. -/
structure Dr (w0 : World) (g r N : Nat) (VR V : Value) (ll : List (Int × Int)) (k : Nat) (w : World) : Prop where
  ex : ∃ S K p, HeapAt w g S K p ∧ K.map pr = ll.drop k ∧ p ≤ N ∧ (∀ z ∈ S, w0.heap.size ≤ z ∧ z ∉ r :: foot VR ∧ z ∉ foot V)
  blk : Blk w r 29 #[VR]
  rrs : Rs w 39 2 VR ll.length (nms ll)
  rs : Rs w 39 2 V ll.length (nms ll)
  chg : Chg [] w0 w
section
variable {w0 w w' : World} {g r N k : Nat} {VR V : Value} {ll : List (Int × Int)}
theorem Dr.quiet (H : Dr w0 g r N VR V ll k w) (hc : Chg [] w w') : Dr w0 g r N VR V ll k w' := by
  obtain ⟨⟨S, K, p, h1, h2, h3, h4⟩, h5, h5b, h6, h7⟩ := H
  exact ⟨⟨S, K, p, h1.quiet hc, h2, h3, h4⟩, h5.chg hc (by simp), h5b.quiet hc, h6.quiet hc, h7.then hc⟩
theorem Dr.turns {S : List Nat} {K' : List Tm} {p' k' : Nat} (h4 : ∀ z ∈ S, w0.heap.size ≤ z ∧ z ∉ r :: foot VR ∧ z ∉ foot V) (h5 : Blk w r 29 #[VR]) (h5b : Rs w 39 2 VR ll.length (nms ll)) (h6 : Rs w 39 2 V ll.length (nms ll)) (h7 : Chg [] w0 w) (hT : Turns g S K' p' w w') (hl : K'.map pr = ll.drop k') (hp : p' ≤ N) : Dr w0 g r N VR V ll k' w' := by
  obtain ⟨S', q1, q2, q3⟩ := hT
  refine ⟨⟨S', K', p', q1, hl, hp, fun z hz => ?_⟩, h5.chg q3 (fun hs => (h4 r hs).2.1 (by simp)), h5b.chg q3 (fun z hz hs => (h4 z hs).2.1 (List.mem_cons_of_mem _ hz)), h6.chg q3 (fun z hz hs => (h4 z hs).2.2 hz), h7.trans q3 (fun z hz => .inr (h4 z hz).1)⟩
  rcases q2 z hz with h9 | h9
  · exact h4 z h9
  · refine ⟨by have := h7.size; omega, fun hm => ?_, fun hm => ?_⟩
    · rcases List.mem_cons.1 hm with rfl | hm
      · have := h5.lt; omega
      · have := h5b.lt z hm; omega
    · have := h6.lt z hm; omega
theorem Dr.pop (H : Dr w0 g r N VR V ll k w) (hN : N ≤ 100000) (now : Int) {x : Int × Int} (hx : ll[k]? = some x) (hle : x.1 ≤ now) :
    (Calls Try.prog 14 #[.pointer (some ⟨g, 0, none⟩), .int .u64 now] w fun e w' => e = .returned (.tuple #[.int .i64 x.2, .bool true]) ∧ Dr w0 g r N VR V ll (k + 1) w') ∧ hasP x.2 (ll.drop (k + 1)) = false := by
  obtain ⟨⟨S, K, p, h1, h2, h3, h4⟩, h5, h5b, h6, h7⟩ := H
  have hkl := (List.getElem?_eq_some_iff.1 hx).1
  have hd : ll.drop k = x :: ll.drop (k + 1) := by
    rw [List.drop_eq_getElem_cons hkl]
    rw [List.getElem?_eq_getElem hkl] at hx
    rw [Option.some.inj hx]
  rw [hd] at h2
  obtain ⟨y, K', rfl, hy, hK⟩ := List.map_eq_cons_iff.1 h2
  have hon := h1.once
  have hyi : y.id = x.2 := by rw [← hy]; rfl
  have hya : y.at_ ≤ now := by rw [← hy] at hle; exact hle
  have hpp := pop_any h1 (by omega) now
  simp only [popV, popK, if_pos hya] at hpp
  rw [hyi] at hpp hon
  refine ⟨hpp.mono fun e w' ⟨q1, q2⟩ => ⟨q1, Dr.turns h4 h5 h5b h6 h7 q2 hK h3⟩, ?_⟩
  rw [← hK, hasId_map]
  exact hon
theorem Dr.stay (H : Dr w0 g r N VR V ll k w) (hN : N ≤ 100000) (now : Int) (hs : ∀ x, ll[k]? = some x → ¬ x.1 ≤ now) :
    Calls Try.prog 14 #[.pointer (some ⟨g, 0, none⟩), .int .u64 now] w fun e w' => e = .returned (.tuple #[.int .i64 0, .bool false]) ∧ Dr w0 g r N VR V ll k w' := by
  obtain ⟨⟨S, K, p, h1, h2, h3, h4⟩, h5, h5b, h6, h7⟩ := H
  have hpp := pop_any h1 (by omega) now
  cases K with
  | nil =>
    simp only [popV, popK] at hpp
    exact hpp.mono fun e w' ⟨q1, q2⟩ => ⟨q1, Dr.turns h4 h5 h5b h6 h7 q2 h2 h3⟩
  | cons y K' =>
    have hy : ll[k]? = some (pr y) := by
      have : (ll.drop k)[0]? = some (pr y) := by rw [← h2]; rfl
      rw [List.getElem?_drop] at this
      simpa using this
    have hya : ¬ y.at_ ≤ now := hs _ hy
    simp only [popV, popK, if_neg hya] at hpp
    exact hpp.mono fun e w' ⟨q1, q2⟩ => ⟨q1, Dr.turns h4 h5 h5b h6 h7 q2 h2 h3⟩
theorem Dr.has (H : Dr w0 g r N VR V ll k w) {id : Int} (hi : I64 id) : Calls Try.prog 15 #[.pointer (some ⟨g, 0, none⟩), .int .i64 id] w fun e w' => e = .returned (.bool (hasP id (ll.drop k))) ∧ w = w' := by
  obtain ⟨⟨S, K, p, h1, h2, h3, h4⟩, h5, h5b, h6, h7⟩ := H
  rw [← h2, hasId_map]
  exact has_any h1 hi
theorem Dr.len (H : Dr w0 g r N VR V ll k w) : Calls Try.prog 16 #[.pointer (some ⟨g, 0, none⟩)] w fun e w' => e = .returned (.int .i64 (ll.drop k).length) ∧ w = w' := by
  obtain ⟨⟨S, K, p, h1, h2, h3, h4⟩, h5, h5b, h6, h7⟩ := H
  rw [← h2, List.length_map]
  exact len_any h1
theorem Dr.tells (H : Dr w0 g r N VR V ll k w) (hN : N ≤ 100000) : Tells w (.pointer (some ⟨g, 0, none⟩)) (ll.drop k) := by
  obtain ⟨⟨S, K, p, h1, h2, h3, h4⟩, h5, h5b, h6, h7⟩ := H
  rw [← h2]
  exact h1.tells (by omega)
/-- The IDs of what is there are ints. -/
theorem HeapAt.ids {S : List Nat} {K : List Tm} {p : Nat} (H : HeapAt w g S K p) : ∀ x ∈ K, I64 x.id := by
  rcases H with ⟨_, rfl, _⟩ | ⟨h, b, c, m, ts, ⟨f, HB, hP, hI⟩, h1, h2, rfl⟩
  · intro x hx; cases hx
  · intro x hx; exact hI x (h1.perm.mem_iff.2 hx)
theorem Dr.start (H : Between w0 g r N ll w) (hN : N ≤ 100000) : ∃ VR, w.cell? ⟨r, 0, none⟩ = some VR ∧ (∀ x ∈ ll, I64 x.2) ∧ ll.length ≤ N ∧
    (Calls Try.prog 12 #[.pointer (some ⟨g, 0, none⟩)] w fun e w' => ∃ v, e = .returned v ∧ Dr w0 g r N VR v ll 0 w') := by
  obtain ⟨S, R, K, p, h1, rfl, h3, h4, h5, h6⟩ := H
  obtain ⟨VR, hB, hR, hS⟩ := h1.ref
  refine ⟨VR, hB.cell 0, fun x hx => ?_, by rw [List.length_map]; have := h1.heap.few; omega, ?_⟩
  · obtain ⟨y, hy, rfl⟩ := List.mem_map.1 hx
    exact h1.heap.ids y hy
  · refine (all_any h1.heap (by omega)).mono ?_
    rintro e w' ⟨v, rfl, q1, q2, q3⟩
    refine ⟨v, rfl, ⟨⟨S, K, p, h1.heap.quiet q3, by simp, h3, fun z hz => ⟨h4 z hz, hS ▸ h1.apart z hz, fun hm => ?_⟩⟩, hB.chg q3 (by simp), hR.quiet q3, Rs.of_row q1, h6.then q3⟩⟩
    have := q2 z hm
    have := h1.heap.lt z hz
    omega
end
end Go.Proofs
