import Derived.Test.YtelkndhifkmpiaaHeJ
import Derived.Shelf.SlMaps.Clone
namespace Go.Proofs
open Go.RowKit
set_option linter.unusedVariables false

/-! ### Timers in their order -/
/-- x comes behind all that are not later. -/
def insK : List Tm → Tm → List Tm
  | [], x => [x]
  | y :: l, x => if y.at_ ≤ x.at_ then y :: insK l x else x :: y :: l
def hasId (K : List Tm) (id : Int) : Bool := K.any (fun x => x.id == id)
def eraseId (K : List Tm) (id : Int) : List Tm := K.eraseP (fun x => x.id == id)
theorem insK_perm (K : List Tm) (x : Tm) : (insK K x).Perm (x :: K) := by
  induction K with
  | nil => exact List.Perm.refl _
  | cons y l ih =>
    unfold insK
    split
    · exact (ih.cons y).trans (List.Perm.swap x y l)
    · exact List.Perm.refl _
theorem insK_sorted {K : List Tm} {x : Tm} (h : K.Pairwise Tm.lt) (hp : ∀ y ∈ K, y.put < x.put) : (insK K x).Pairwise Tm.lt := by
  induction K with
  | nil => unfold insK; simp
  | cons y l ih =>
    obtain ⟨h1, h2⟩ := List.pairwise_cons.1 h
    unfold insK
    split
    · rename_i hle
      refine List.pairwise_cons.2 ⟨fun z hz => ?_, ih h2 (fun z hz => hp z (List.mem_cons_of_mem _ hz))⟩
      rcases List.mem_cons.1 ((insK_perm l x).mem_iff.1 hz) with rfl | hz
      · have := hp y (by simp)
        unfold Tm.lt; omega
      · exact h1 z hz
    · rename_i hgt
      refine List.pairwise_cons.2 ⟨fun z hz => ?_, h⟩
      rcases List.mem_cons.1 hz with rfl | hz
      · unfold Tm.lt; omega
      · have := h1 z hz
        unfold Tm.lt at *; omega
/-- The heap ts and the timers K in their order are one; p were put. -/
structure St (ts K : List Tm) (p : Nat) : Prop where
  perm : ts.Perm K
  sorted : K.Pairwise Tm.lt
  heap : HeapO (at_ ts) ts.length
  puts : ∀ x ∈ K, x.put < p
  few : K.length ≤ p
section
variable {ts ts' K : List Tm} {p : Nat}
theorem St.len (h : St ts K p) : ts.length = K.length := h.perm.length_eq
theorem St.put (h : St ts K p) {x : Tm} (hx : x.put = p) (hp : ts'.Perm (ts ++ [x])) (hh : HeapO (at_ ts') ts'.length) : St ts' (insK K x) (p + 1) := by
  have hpk := insK_perm K x
  refine ⟨?_, insK_sorted h.sorted (fun y hy => by rw [hx]; exact h.puts y hy), hh, fun y hy => ?_, ?_⟩
  · exact hp.trans (((List.perm_append_comm (l₁ := ts) (l₂ := [x])).trans (h.perm.cons x)).trans hpk.symm)
  · rcases List.mem_cons.1 (hpk.mem_iff.1 hy) with rfl | hy
    · omega
    · have := h.puts y hy; omega
  · rw [hpk.length_eq, List.length_cons]; have := h.few; omega
theorem St.take (h : St ts K p) {i : Nat} (hi : i < ts.length) (hp : (ts' ++ [at_ ts i]).Perm ts) (hh : HeapO (at_ ts') ts'.length) : St ts' (K.erase (at_ ts i)) p := by
  have hm : at_ ts i ∈ K := h.perm.mem_iff.1 (List.mem_of_getElem? (at_eq hi))
  refine ⟨?_, h.sorted.sublist (List.erase_sublist), hh, fun y hy => h.puts y (List.mem_of_mem_erase hy), Nat.le_trans (List.erase_sublist.length_le) h.few⟩
  have e1 : (at_ ts i :: ts').Perm (at_ ts i :: K.erase (at_ ts i)) := ((List.perm_append_comm (l₁ := [at_ ts i]) (l₂ := ts')).trans hp).trans (h.perm.trans (List.perm_cons_erase hm))
  exact (List.perm_cons _).1 e1
theorem St.root {x : Tm} (h : St ts (x :: K) p) : at_ ts 0 = x := by
  have hl : 0 < ts.length := by rw [h.len]; simp
  have hx : x ∈ ts := h.perm.mem_iff.2 (by simp)
  obtain ⟨k, hk, e⟩ := List.mem_iff_getElem.1 hx
  have h1 := h.heap.root k hk
  rw [show at_ ts k = x from at_of (by rw [List.getElem?_eq_getElem hk, e])] at h1
  have h2 : at_ ts 0 ∈ x :: K := h.perm.mem_iff.1 (List.mem_of_getElem? (at_eq hl))
  rcases List.mem_cons.1 h2 with h2 | h2
  · exact h2
  · exact absurd ((List.pairwise_cons.1 h.sorted).1 _ h2) h1
end
theorem eraseP_same {α : Type} {q r : α → Bool} {l : List α} (h : ∀ x ∈ l, q x = r x) : l.eraseP q = l.eraseP r := by
  induction l with
  | nil => rfl
  | cons x l ih =>
    rw [List.eraseP_cons, List.eraseP_cons, h x (by simp), ih (fun y hy => h y (List.mem_cons_of_mem _ hy))]
theorem erase_id {K : List Tm} {x : Tm} (hx : x ∈ K) (hu : ∀ y ∈ K, y.id = x.id → y = x) : K.erase x = eraseId K x.id := by
  unfold eraseId
  rw [List.erase_eq_eraseP]
  refine eraseP_same fun y hy => ?_
  by_cases e : y = x
  · subst e; simp
  · rw [show (x == y) = false by simpa using fun e' => e e'.symm, show (y.id == x.id) = false by simpa using fun e' => e (hu y hy e')]
theorem hasId_iff {K : List Tm} {id : Int} : hasId K id = true ↔ ∃ x ∈ K, x.id = id := by unfold hasId; simp
theorem Plcs.has {ts K : List Tm} {f : Int → Option Nat} (h : Plcs ts f) (hp : ts.Perm K) (id : Int) : (f id).isSome = hasId K id := by
  rw [Bool.eq_iff_iff, hasId_iff]
  constructor
  · intro hs
    obtain ⟨k, x, hk, e⟩ := h.2 id (fun e => by rw [e] at hs; cases hs)
    exact ⟨x, hp.mem_iff.1 (List.mem_of_getElem? hk), e⟩
  · rintro ⟨x, hx, rfl⟩
    obtain ⟨k, hk, e⟩ := List.mem_iff_getElem.1 (hp.mem_iff.2 hx)
    rw [h.1 k x (by rw [List.getElem?_eq_getElem hk, e])]
    rfl

/-! ### A heap in memory, whatever it is -/
def HeapAt (w : World) (g : Nat) (S : List Nat) (K : List Tm) (p : Nat) : Prop :=
  (Blk w g 55 #[.slice none 0 0, .map none, .int .u64 p] ∧ K = [] ∧ S = [g]) ∨ ∃ h b c m ts, Hm w g h b c m p ts ∧ St ts K p ∧ m ≤ p ∧ S = [g, h, b]
def Turns (g : Nat) (S : List Nat) (K : List Tm) (p : Nat) (w w' : World) : Prop :=
  ∃ S', HeapAt w' g S' K p ∧ (∀ k ∈ S', k ∈ S ∨ w.heap.size ≤ k) ∧ Chg S w w'
section
variable {w w' : World} {g p : Nat} {S : List Nat} {K : List Tm}
theorem HeapAt.lt (H : HeapAt w g S K p) : ∀ k ∈ S, k < w.heap.size := by
  rcases H with ⟨hB, _, rfl⟩ | ⟨h, b, c, m, ts, hm, _, _, rfl⟩
  · intro k hk; simp at hk; subst hk; exact hB.lt
  · exact hm.lt
theorem HeapAt.mem (H : HeapAt w g S K p) : g ∈ S := by
  rcases H with ⟨hB, _, rfl⟩ | ⟨h, b, c, m, ts, hm, _, _, rfl⟩ <;> simp
theorem HeapAt.chg {S' : List Nat} (H : HeapAt w g S K p) (hc : Chg S' w w') (hn : ∀ k ∈ S, k ∉ S') : HeapAt w' g S K p := by
  rcases H with ⟨hB, hK, rfl⟩ | ⟨h, b, c, m, ts, hm, h1, h2, rfl⟩
  · exact .inl ⟨hB.chg hc (hn g (by simp)), hK, rfl⟩
  · exact .inr ⟨h, b, c, m, ts, hm.chg hc hn, h1, h2, rfl⟩
theorem HeapAt.quiet (H : HeapAt w g S K p) (hc : Chg [] w w') : HeapAt w' g S K p := H.chg hc (fun _ _ h => by cases h)
theorem Turns.refl (H : HeapAt w g S K p) (hc : Chg [] w w') : Turns g S K p w w' := ⟨S, H.quiet hc, fun k hk => .inl hk, hc.any⟩
theorem Turns.of (h : HeapAt w' g S K p) (hc : Chg S w w') : Turns g S K p w w' := ⟨S, h, fun k hk => .inl hk, hc⟩
theorem Turns.later {w'' : World} (H : Turns g S K p w w') (hc : Chg [] w' w'') : Turns g S K p w w'' := by
  obtain ⟨S', h1, h2, h3⟩ := H
  exact ⟨S', h1.quiet hc, h2, h3.then hc⟩
/-- What the walk asks of a heap: its three cells. -/
theorem HeapAt.cells (H : HeapAt w g S K p) : ∃ A c mv, w.cell? ⟨g, 0, none⟩ = some (.slice A K.length c) ∧ w.cell? ⟨g, 1, none⟩ = some (.map mv) ∧ w.cell? ⟨g, 2, none⟩ = some (.int .u64 p) ∧ g < w.heap.size ∧
    (∀ id, I64 id → ∃ q, (Instr.lookup 53 (.map mv) (.int .i64 id) true).run Try.prog w = .ok (.tuple #[.int .i64 q, .bool (hasId K id)]) w) := by
  rcases H with ⟨hB, rfl, rfl⟩ | ⟨h, b, c, m, ts, ⟨f, H, hP, hI⟩, h1, h2, rfl⟩
  · exact ⟨_, _, _, hB.cell 0, hB.cell 1, hB.cell 2, hB.lt, fun id hi => ⟨0, has_nil w hi⟩⟩
  · refine ⟨_, _, _, h1.len ▸ H.head.1, H.head.2.1, H.head.2.2, H.lt g (by simp), fun id hi => ?_⟩
    obtain ⟨q, hq⟩ := H.2.2.has hi
    exact ⟨q, by rw [← hP.has h1.perm]; exact hq⟩
theorem HeapAt.few (H : HeapAt w g S K p) : K.length ≤ p := by
  rcases H with ⟨hB, rfl, rfl⟩ | ⟨h, b, c, m, ts, _, h1, h2, rfl⟩
  · simp
  · exact h1.few
end
theorem New.heap (w : World) : HeapAt (w.alloc (.cells #[.slice none 0 0, .map none, .int .u64 0] 55)) w.heap.size [w.heap.size] [] 0 := .inl ⟨Blk.new w 55 _, rfl, rfl⟩
theorem new_any (w : World) : Calls Try.prog 9 #[] w fun e w' => e = .returned (.pointer (some ⟨w.heap.size, 0, none⟩)) ∧ w' = w.alloc (.cells #[.slice none 0 0, .map none, .int .u64 0] 55) := by
  go_enter Try.func9, Try.ntmps9
  go_wp2
  go_ret
  exact ⟨rfl, rfl⟩
theorem len_any {w : World} {g p : Nat} {S : List Nat} {K : List Tm} (H : HeapAt w g S K p) :
    Calls Try.prog 16 #[.pointer (some ⟨g, 0, none⟩)] w fun e w' => e = .returned (.int .i64 K.length) ∧ w = w' := by
  obtain ⟨A, c, mv, c0, c1, c2, lg, _⟩ := H.cells
  clear H
  go_enter Try.func16, Try.ntmps16
  go_wp2
  go_ret
  exact ⟨rfl, rfl⟩
theorem has_any {w : World} {g p : Nat} {S : List Nat} {K : List Tm} (H : HeapAt w g S K p) {id : Int} (hi : I64 id) :
    Calls Try.prog 15 #[.pointer (some ⟨g, 0, none⟩), .int .i64 id] w fun e w' => e = .returned (.bool (hasId K id)) ∧ w = w' := by
  obtain ⟨A, c, mv, c0, c1, c2, lg, hl⟩ := H.cells
  obtain ⟨q, hq⟩ := hl id hi
  obtain ⟨r, hr⟩ : ∃ r, r = hasId K id := ⟨_, rfl⟩
  rw [← hr] at hq ⊢
  clear H hl hr
  go_enter Try.func15, Try.ntmps15
  go_wp2
  go_ret
  exact ⟨rfl, rfl⟩
/-- What next tells. -/
def nextV : List Tm → Value
  | [] => .tuple #[.int .u64 0, .bool false]
  | x :: _ => .tuple #[.int .u64 x.at_, .bool true]
theorem next_any {w : World} {g p : Nat} {S : List Nat} {K : List Tm} (H : HeapAt w g S K p) :
    Calls Try.prog 21 #[.pointer (some ⟨g, 0, none⟩)] w fun e w' => e = .returned (nextV K) ∧ w = w' := by
  have HL := len_any H
  cases K with
  | nil =>
    unfold nextV
    clear H
    go_enter Try.func21, Try.ntmps21
    go_wp2_with (go_at_call 16; refine HL.mono ?_; rintro e w' ⟨rfl, rfl⟩)
    go_ret2
    exact ⟨rfl, rfl⟩
  | cons x K =>
    rcases H with ⟨_, hK, _⟩ | ⟨h, b, c, m, ts, ⟨f, H, hP, hI⟩, h1, h2, rfl⟩
    · cases hK
    · have hl : 0 < ts.length := by rw [h1.len]; simp
      have c0 := H.head.1
      have k0 := (H.cells hl).1
      rw [h1.root] at k0
      rw [Nat.zero_mul] at k0
      have e1 := h1.len
      rw [List.length_cons] at HL e1
      rw [e1] at c0
      obtain ⟨l, hll⟩ : ∃ l, l = K.length := ⟨_, rfl⟩
      rw [← hll] at HL c0
      have hz : (((l + 1 : Nat) : Int) == 0) = false := by simp; omega
      have i1 : (0 : Int) < (l : Int) + 1 := by omega
      unfold nextV
      clear H hP hI h1 h2 hl hll e1
      go_enter Try.func21, Try.ntmps21
      go_wp2_with (go_at_call 16; refine HL.mono ?_; rintro e w' ⟨rfl, rfl⟩)
      go_ret2
      exact ⟨rfl, rfl⟩
end Go.Proofs
