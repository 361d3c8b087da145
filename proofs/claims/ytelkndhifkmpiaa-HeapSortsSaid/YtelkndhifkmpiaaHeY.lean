import Derived.Test.YtelkndhifkmpiaaHeX
import Derived.Test.YtelkndhifkmpiaaHeV
namespace Go.Proofs
open Go.RowKit
set_option linter.unusedVariables false

/-! ### The code's timers, and the document's -/
theorem hasId_map (K : List Tm) (id : Int) : hasP id (K.map pr) = hasId K id := by
  unfold hasP hasId
  rw [List.any_map]
  rfl
theorem insK_map (K : List Tm) (x : Tm) : (insK K x).map pr = insP (K.map pr) (pr x) := by
  induction K with
  | nil => rfl
  | cons y l ih =>
    unfold insK
    rw [List.map_cons]
    unfold insP
    by_cases h : y.at_ ≤ x.at_
    · rw [if_pos h, if_pos (show (pr y).1 ≤ (pr x).1 from h), List.map_cons, ih]
    · rw [if_neg h, if_neg (show ¬ (pr y).1 ≤ (pr x).1 from h)]; rfl
theorem eraseId_map (K : List Tm) (id : Int) (h : hasId K id = true) : (eraseId K id).map pr = cutP (K.map pr) (idAt id (K.map pr)) := by
  induction K with
  | nil => cases h
  | cons y l ih =>
    unfold eraseId idAt cutP
    rw [List.eraseP_cons, List.map_cons, List.findIdx_cons]
    by_cases e : y.id = id
    · have e1 : (y.id == id) = true := by simpa using e
      have e2 : ((pr y).2 == id) = true := e1
      rw [e1, e2]
      simp
    · have e1 : (y.id == id) = false := by simpa using e
      have e2 : ((pr y).2 == id) = false := e1
      rw [e1, e2]
      have hl : hasId l id = true := by
        unfold hasId at h ⊢
        rw [List.any_cons, e1] at h
        simpa using h
      have := ih hl
      unfold eraseId idAt cutP at this
      simp only [cond_false, List.take_succ_cons, List.drop_succ_cons, List.map_cons, List.cons_append]
      rw [this]
theorem pop_map (now : Int) (K : List Tm) : (popK now K).map pr = popP now (K.map pr) ∧ popV now K = popVP now (K.map pr) := by
  cases K with
  | nil => exact ⟨rfl, rfl⟩
  | cons x K =>
    rw [List.map_cons]
    by_cases h : x.at_ ≤ now
    · have h' : (pr x).1 ≤ now := h
      simp only [popK, popP, popV, popVP, if_pos h, if_pos h']
      refine ⟨?_, ?_⟩ <;> first | trivial | rfl
    · have h' : ¬ (pr x).1 ≤ now := h
      simp only [popK, popP, popV, popVP, if_neg h, if_neg h']
      refine ⟨?_, ?_⟩ <;> first | trivial | rfl
/-- What an act makes of timers as they are told. -/
def putP (l : List (Int × Int)) (at' id : Int) : List (Int × Int) := if hasP id l then l else insP l (at', id)
def remP (l : List (Int × Int)) (id : Int) : List (Int × Int) := if hasP id l then cutP l (idAt id l) else l
def actP (l : List (Int × Int)) (kind at' id : Int) : List (Int × Int) :=
  if kind = 1 then putP l at' id else if kind = 2 then popP at' l else if kind = 3 then remP l id else l
/-- The document's heap, put. -/
theorem rput_any {w : World} {r : Nat} {S : List Nat} {l : List (Int × Int)} (h : RefAt w r S l) (hn : l.length ≤ 100000) (at' id : Int) :
    Calls Try.prog 23 #[.pointer (some ⟨r, 0, none⟩), .int .u64 at', .int .i64 id] w fun e w' => e = .returned (.int .i64 (if hasP id l then 14 else 0)) ∧ RTurns r S (putP l at' id) w w' := by
  unfold putP
  by_cases hb : hasP id l = true
  · rw [if_pos hb, if_pos hb]
    refine (rput_busy h hn at' id hb).mono ?_
    rintro e w' ⟨h1, rfl⟩
    exact ⟨h1, RTurns.refl h (Chg.refl _ _)⟩
  · rw [if_neg hb, if_neg hb]
    exact rput_new h hn at' id (by simpa using hb)
theorem rremove_any {w : World} {r : Nat} {S : List Nat} {l : List (Int × Int)} (h : RefAt w r S l) (hn : l.length ≤ 100000) (id : Int) :
    Calls Try.prog 25 #[.pointer (some ⟨r, 0, none⟩), .int .i64 id] w fun e w' => e = .returned (.bool (hasP id l)) ∧ RTurns r S (remP l id) w w' := by
  unfold remP
  by_cases hb : hasP id l = true
  · rw [if_pos hb, hb]
    exact rremove_yes h hn id hb
  · have hf : hasP id l = false := by simpa using hb
    rw [if_neg hb, hf]
    refine (rremove_no h hn id hf).mono ?_
    rintro e w' ⟨h1, rfl⟩
    exact ⟨h1, RTurns.refl h (Chg.refl _ _)⟩
/-- The two, apart in memory. -/
structure Two (w : World) (g r : Nat) (S R : List Nat) (K : List Tm) (p : Nat) : Prop where
  heap : HeapAt w g S K p
  ref : RefAt w r R (K.map pr)
  apart : ∀ k ∈ S, k ∉ R
def Does (g r : Nat) (S R : List Nat) (l : List (Int × Int)) (p : Nat) (w w' : World) : Prop :=
  ∃ S' R' K' p', Two w' g r S' R' K' p' ∧ K'.map pr = l ∧ p' ≤ p + 1 ∧ (∀ k ∈ S', k ∈ S ∨ w.heap.size ≤ k) ∧ (∀ k ∈ R', k ∈ R ∨ w.heap.size ≤ k) ∧ Chg (S ++ R) w w'
section
variable {w w1 w2 : World} {g r p p' : Nat} {S R : List Nat} {K K' : List Tm} {l : List (Int × Int)}
theorem Two.quiet (H : Two w g r S R K p) (hc : Chg [] w w1) : Two w1 g r S R K p := ⟨H.heap.quiet hc, H.ref.quiet hc, H.apart⟩
theorem Two.does (H : Two w g r S R K p) (hc : Chg [] w w1) : Does g r S R (K.map pr) p w w1 := ⟨S, R, K, p, H.quiet hc, rfl, by omega, fun k hk => .inl hk, fun k hk => .inl hk, hc.any⟩
/-- Behind the call on the code's: the document's is as it was. -/
theorem Two.mid (H : Two w g r S R K p) {wa : World} (ha : Chg [] w wa) (hT : Turns g S K' p' wa w1) : RefAt w1 r R (K.map pr) := by
  obtain ⟨S', h1, h2, h3⟩ := hT
  exact (H.ref.quiet ha).chg h3 (fun k hk hm => H.apart k hm hk)
theorem Two.step {wa wb w3 : World} (H : Two w g r S R K p) (ha : Chg [] w wa) (hT : Turns g S K' p' wa w1) (hp : p' ≤ p + 1) (hb : Chg [] w1 wb) (hR : RTurns r R l wb w2) (hl : K'.map pr = l) (hc : Chg [] w2 w3) : Does g r S R l p w w3 := by
  have hm := H.mid ha hT
  obtain ⟨S', h1, h2, h3⟩ := hT
  obtain ⟨R', h4, h5, h6⟩ := hR
  have hz1 := ha.size
  have hz2 := h3.size
  have hz3 := hb.size
  have hrR := H.ref.mem
  have hS' : ∀ k ∈ S', k ∈ S ∨ w.heap.size ≤ k := fun k hk => (h2 k hk).imp _root_.id (fun h => by omega)
  have hR' : ∀ k ∈ R', k ∈ R ∨ w.heap.size ≤ k := fun k hk => (h5 k hk).imp _root_.id (fun h => by omega)
  have hapR : ∀ k ∈ S', k ∉ R := fun k hk hkR => by
    rcases hS' k hk with h9 | h9
    · exact H.apart k h9 hkR
    · have := H.ref.lt k hkR; omega
  refine ⟨S', R', K', p', ⟨((h1.quiet hb).chg h6 (fun k hk e => ?_)).quiet hc, (hl ▸ h4).quiet hc, fun k hk hkR => ?_⟩, hl, hp, hS', hR', ?_⟩
  · simp at e; subst e; exact hapR k hk hrR
  · rcases h5 k hkR with h9 | h9
    · exact hapR k hk h9
    · have := h1.lt k hk; omega
  · have e1 : Chg (S ++ R) w w1 := (Chg.any ha).trans h3 (fun k hk => .inl (List.mem_append_left _ hk))
    exact ((e1.then hb).trans h6 (fun k hk => .inl (by simp at hk; subst hk; exact List.mem_append_right _ hrR))).then hc
theorem Two.few (H : Two w g r S R K p) (hp : p ≤ 100000) : (K.map pr).length ≤ 100000 := by rw [List.length_map]; have := H.heap.few; omega
end
end Go.Proofs
