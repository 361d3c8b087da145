import Derived.Test.YtelkndhifkmpiaaHeZ
namespace Go.Proofs
open Go.RowKit
set_option linter.unusedVariables false

/-- At block g a heap that was made since w0: it tells l; at most N were put. -/
def Made (w0 : World) (g : Nat) (l : List (Int × Int)) (N : Nat) (w : World) : Prop :=
  ∃ S K p, HeapAt w g S K p ∧ K.map pr = l ∧ p ≤ N ∧ (∀ k ∈ S, w0.heap.size ≤ k) ∧ Chg [] w0 w
section
variable {w0 w w' : World} {g N : Nat} {l : List (Int × Int)}
theorem Made.quiet (H : Made w0 g l N w) (hc : Chg [] w w') : Made w0 g l N w' := by
  obtain ⟨S, K, p, h1, h2, h3, h4, h5⟩ := H
  exact ⟨S, K, p, h1.quiet hc, h2, h3, h4, h5.then hc⟩
theorem Made.chg (H : Made w0 g l N w) : Chg [] w0 w := by obtain ⟨S, K, p, h1, h2, h3, h4, h5⟩ := H; exact h5
theorem Made.few (H : Made w0 g l N w) : l.length ≤ N := by
  obtain ⟨S, K, p, h1, rfl, h3, h4, h5⟩ := H
  rw [List.length_map]
  have := h1.few; omega
theorem Made.turns {S : List Nat} {K' : List Tm} {p' : Nat} (hS : ∀ k ∈ S, w0.heap.size ≤ k) (hc : Chg [] w0 w) (hT : Turns g S K' p' w w') {l' : List (Int × Int)} (hl : K'.map pr = l') (hp : p' ≤ N) : Made w0 g l' N w' := by
  obtain ⟨S', h1, h2, h3⟩ := hT
  refine ⟨S', K', p', h1, hl, hp, fun k hk => ?_, hc.trans h3 (fun k hk => .inr (hS k hk))⟩
  rcases h2 k hk with h9 | h9
  · exact hS k h9
  · have := hc.size; omega
theorem putK_map (K : List Tm) (at' id : Int) (p : Nat) : (if hasId K id = true then K else insK K ⟨at', id, p⟩).map pr = putP (K.map pr) at' id := by
  unfold putP
  rw [hasId_map]
  split
  · rfl
  · exact insK_map K _
theorem remK_map (K : List Tm) (id : Int) : (eraseId K id).map pr = remP (K.map pr) id := by
  unfold remP
  by_cases hb : hasP id (K.map pr) = true
  · rw [if_pos hb]
    exact eraseId_map K id (by rw [← hasId_map]; exact hb)
  · rw [if_neg hb]
    have : eraseId K id = K := by
      unfold eraseId
      refine List.eraseP_of_forall_not fun x hx => ?_
      intro e
      exact hb (by rw [hasId_map]; exact hasId_iff.2 ⟨x, hx, by simpa using e⟩)
    rw [this]
theorem Made.put (H : Made w0 g l N w) (hN : N < 100000) (at' : Int) {id : Int} (hi : I64 id) :
    Calls Try.prog 17 #[.pointer (some ⟨g, 0, none⟩), .int .u64 at', .int .i64 id] w fun e w' => e = .returned (.int .i64 (if hasP id l then 14 else 0)) ∧ Made w0 g (putP l at' id) (N + 1) w' := by
  obtain ⟨S, K, p, h1, rfl, h3, h4, h5⟩ := H
  have := put_any h1 (by omega) at' hi
  rw [← hasId_map] at this
  refine this.mono ?_
  rintro e w' ⟨h6, p', h7, h8⟩
  refine ⟨h6, Made.turns h4 h5 h8 ?_ (by omega)⟩
  rw [hasId_map]
  exact putK_map K at' id p
theorem Made.pop (H : Made w0 g l N w) (hN : N ≤ 100000) (now : Int) :
    Calls Try.prog 14 #[.pointer (some ⟨g, 0, none⟩), .int .u64 now] w fun e w' => e = .returned (popVP now l) ∧ Made w0 g (popP now l) N w' := by
  obtain ⟨S, K, p, h1, rfl, h3, h4, h5⟩ := H
  obtain ⟨pk, pv⟩ := pop_map now K
  have := pop_any h1 (by omega) now
  rw [pv] at this
  exact this.mono fun e w' ⟨h6, h8⟩ => ⟨h6, Made.turns h4 h5 h8 pk h3⟩
theorem Made.remove (H : Made w0 g l N w) (hN : N ≤ 100000) {id : Int} (hi : I64 id) :
    Calls Try.prog 22 #[.pointer (some ⟨g, 0, none⟩), .int .i64 id] w fun e w' => e = .returned (.bool (hasP id l)) ∧ Made w0 g (remP l id) N w' := by
  obtain ⟨S, K, p, h1, rfl, h3, h4, h5⟩ := H
  have := remove_any h1 (by omega) hi
  rw [← hasId_map] at this
  exact this.mono fun e w' ⟨h6, h8⟩ => ⟨h6, Made.turns h4 h5 h8 (remK_map K id) h3⟩
theorem Made.has (H : Made w0 g l N w) {id : Int} (hi : I64 id) : Calls Try.prog 15 #[.pointer (some ⟨g, 0, none⟩), .int .i64 id] w fun e w' => e = .returned (.bool (hasP id l)) ∧ w = w' := by
  obtain ⟨S, K, p, h1, rfl, h3, h4, h5⟩ := H
  rw [hasId_map]
  exact has_any h1 hi
theorem Made.len (H : Made w0 g l N w) : Calls Try.prog 16 #[.pointer (some ⟨g, 0, none⟩)] w fun e w' => e = .returned (.int .i64 l.length) ∧ w = w' := by
  obtain ⟨S, K, p, h1, rfl, h3, h4, h5⟩ := H
  rw [List.length_map]
  exact len_any h1
theorem Made.tells (H : Made w0 g l N w) (hN : N ≤ 100000) : Tells w (.pointer (some ⟨g, 0, none⟩)) l := by
  obtain ⟨S, K, p, h1, rfl, h3, h4, h5⟩ := H
  exact h1.tells (by omega)
end
theorem Made.new (w : World) : Made w w.heap.size [] 0 (w.alloc (.cells #[.slice none 0 0, .map none, .int .u64 0] 55)) :=
  ⟨_, [], 0, New.heap w, rfl, Nat.le_refl _, fun k hk => by simp at hk; omega, (Chg.refl _ _).alloc _⟩
theorem new_made (w : World) : Calls Try.prog 9 #[] w fun e w' => ∃ g, e = .returned (.pointer (some ⟨g, 0, none⟩)) ∧ Made w g [] 0 w' :=
  (new_any w).mono fun e w' ⟨h1, h2⟩ => ⟨_, h1, by rw [h2]; exact Made.new w⟩
theorem i64_small {x : Int} (h : 0 ≤ x) (h' : x ≤ 1000) : I64 x := ⟨by omega, by omega⟩
set_option maxRecDepth 100000 in
set_option maxHeartbeats 3200000 in
theorem known_any (w : World) : Calls Try.prog 8 #[] w fun e w' => e = .returned (.bool true) ∧ Chg [] w w' := by
  have hnew := new_made w
  have HA : ∀ g W, Made w g [] 0 W → Calls Try.prog 17 #[.pointer (some ⟨g, 0, none⟩), .int .u64 5, .int .i64 1] W fun e w' => e = .returned (.int .i64 0) ∧ Made w g [(5, 1)] 1 w' := fun g W H => by
    have := H.put (by omega) 5 (i64_small (x := 1) (by omega) (by omega)); simpa [putP, hasP, insP] using this
  have HB : ∀ g W, Made w g [(5, 1)] 1 W → Calls Try.prog 17 #[.pointer (some ⟨g, 0, none⟩), .int .u64 3, .int .i64 2] W fun e w' => e = .returned (.int .i64 0) ∧ Made w g [(3, 2), (5, 1)] 2 w' := fun g W H => by
    have := H.put (by omega) 3 (i64_small (x := 2) (by omega) (by omega)); simpa [putP, hasP, insP] using this
  have HC : ∀ g W, Made w g [(3, 2), (5, 1)] 2 W → Calls Try.prog 17 #[.pointer (some ⟨g, 0, none⟩), .int .u64 5, .int .i64 3] W fun e w' => e = .returned (.int .i64 0) ∧ Made w g [(3, 2), (5, 1), (5, 3)] 3 w' := fun g W H => by
    have := H.put (by omega) 5 (i64_small (x := 3) (by omega) (by omega)); simpa [putP, hasP, insP] using this
  have HD : ∀ g W, Made w g [(3, 2), (5, 1), (5, 3)] 3 W → Calls Try.prog 14 #[.pointer (some ⟨g, 0, none⟩), .int .u64 4] W fun e w' => e = .returned (.tuple #[.int .i64 2, .bool true]) ∧ Made w g [(5, 1), (5, 3)] 3 w' := fun g W H => by
    have := H.pop (by omega) 4; simpa [popP, popVP] using this
  have HE : ∀ g W, Made w g [(5, 1), (5, 3)] 3 W → Calls Try.prog 14 #[.pointer (some ⟨g, 0, none⟩), .int .u64 4] W fun e w' => e = .returned (.tuple #[.int .i64 0, .bool false]) ∧ Made w g [(5, 1), (5, 3)] 3 w' := fun g W H => by
    have := H.pop (by omega) 4; simpa [popP, popVP] using this
  have HF : ∀ g W, Made w g [(5, 1), (5, 3)] 3 W → Calls Try.prog 14 #[.pointer (some ⟨g, 0, none⟩), .int .u64 5] W fun e w' => e = .returned (.tuple #[.int .i64 1, .bool true]) ∧ Made w g [(5, 3)] 3 w' := fun g W H => by
    have := H.pop (by omega) 5; simpa [popP, popVP] using this
  have HG : ∀ g W, Made w g [(5, 3)] 3 W → Calls Try.prog 14 #[.pointer (some ⟨g, 0, none⟩), .int .u64 5] W fun e w' => e = .returned (.tuple #[.int .i64 3, .bool true]) ∧ Made w g [] 3 w' := fun g W H => by
    have := H.pop (by omega) 5; simpa [popP, popVP] using this
  go_enter Try.func8, Try.ntmps8
  go_wp2_with (first
    | (go_at_call 9; refine hnew.mono ?_; rintro e w1 ⟨g, rfl, hM⟩; have M0 := Lib.hid hM; clear hM)
    | (go_at_call 17; ((with_reducible refine (HA _ _ M0.out).mono ?_); rintro e w2 ⟨rfl, hM⟩); have M1 := Lib.hid hM; clear hM)
    | (go_at_call 17; ((with_reducible refine (HB _ _ M1.out).mono ?_); rintro e w3 ⟨rfl, hM⟩); have M2 := Lib.hid hM; clear hM)
    | (go_at_call 17; ((with_reducible refine (HC _ _ M2.out).mono ?_); rintro e w4 ⟨rfl, hM⟩); have M3 := Lib.hid hM; clear hM)
    | (go_at_call 14; ((with_reducible refine (HD _ _ M3.out).mono ?_); rintro e w5 ⟨rfl, hM⟩); have M4 := Lib.hid hM; clear hM)
    | (go_at_call 14; ((with_reducible refine (HE _ _ M4.out).mono ?_); rintro e w6 ⟨rfl, hM⟩); have M5 := Lib.hid hM; clear hM)
    | (go_at_call 14; ((with_reducible refine (HF _ _ M5.out).mono ?_); rintro e w7 ⟨rfl, hM⟩); have M6 := Lib.hid hM; clear hM)
    | (go_at_call 14; ((with_reducible refine (HG _ _ M6.out).mono ?_); rintro e w8 ⟨rfl, hM⟩); have M7 := Lib.hid hM; clear hM))
  go_ret
  exact ⟨rfl, M7.out.chg⟩
end Go.Proofs
