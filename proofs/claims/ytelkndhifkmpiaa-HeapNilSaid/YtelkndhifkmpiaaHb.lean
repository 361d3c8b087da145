import Derived.Test.YtelkndhifkmpiaaHa
namespace Go.Proofs
open Go.RowKit
set_option linter.unusedVariables false

/-- same, where both tell the same. -/
structure Looks (w : World) (g r : Nat) (l : List (Int × Int)) (A : Option Addr) (n c : Nat) : Prop where
  next : ∀ W, Chg [] w W → Calls Try.prog 21 #[.pointer (some ⟨g, 0, none⟩)] W fun e w' => e = .returned (match l with | [] => .tuple #[.int .u64 0, .bool false] | x :: _ => .tuple #[.int .u64 x.1, .bool true]) ∧ W = w'
  len : ∀ W, Chg [] w W → Calls Try.prog 16 #[.pointer (some ⟨g, 0, none⟩)] W fun e w' => e = .returned (.int .i64 n) ∧ W = w'
  has : ∀ W, Chg [] w W → ∀ id, I64 id → Calls Try.prog 15 #[.pointer (some ⟨g, 0, none⟩), .int .i64 id] W fun e w' => e = .returned (.bool (hasP id l)) ∧ W = w'
  rhas : ∀ W, Chg [] w W → ∀ id, Calls Try.prog 26 #[.pointer (some ⟨r, 0, none⟩), .int .i64 id] W fun e w' => e = .returned (.bool (hasP id l)) ∧ W = w'
  all : ∀ W, Chg [] w W → Calls Try.prog 12 #[.pointer (some ⟨g, 0, none⟩)] W fun e w' => ∃ v, e = .returned v ∧ FreshN W w' v l
  rs : Rs w 39 2 (.slice A n c) n (nms l)
  cell : w.cell? ⟨r, 0, none⟩ = some (.slice A n c)
  lt : r < w.heap.size
  few : n ≤ 100000
theorem Two.looks {w : World} {g r p : Nat} {S R : List Nat} {K : List Tm} (H : Two w g r S R K p) (hp : p ≤ 100000) : ∃ A n c, Looks w g r (K.map pr) A n c := by
  have hfew := H.few hp
  obtain ⟨V, hB, hR, hS⟩ := H.ref
  obtain ⟨A, c, rfl, _⟩ := _root_.id hR
  refine ⟨A, _, c, ?_, ?_, ?_, ?_, ?_, hR, hB.cell 0, hB.lt, hfew⟩
  · intro W hW
    refine (next_any (H.heap.quiet hW)).mono ?_
    rintro e w' ⟨h1, h2⟩
    refine ⟨?_, h2⟩
    cases K <;> exact h1
  · intro W hW
    rw [List.length_map]
    exact len_any (H.heap.quiet hW)
  · intro W hW id hi
    rw [hasId_map]
    exact has_any (H.heap.quiet hW) hi
  · intro W hW id
    exact rhas_any (H.ref.quiet hW) hfew id
  · intro W hW
    exact all_any (H.heap.quiet hW) hp
set_option maxRecDepth 100000 in
set_option maxHeartbeats 6400000 in
theorem same_two {w : World} {g r : Nat} {l : List (Int × Int)} {A : Option Addr} {n c : Nat} (H : Looks w g r l A n c) :
    Calls Try.prog 11 #[.pointer (some ⟨g, 0, none⟩), .pointer (some ⟨r, 0, none⟩)] w fun e w' => e = .returned (.bool true) ∧ Chg [] w w' := by
  have HX := H.next w (Chg.refl _ _)
  have HL : ∀ q, Calls Try.prog 16 #[.pointer (some ⟨g, 0, none⟩)] (w.drewN q) fun e w' => e = .returned (.int .i64 n) ∧ w' = w.drewN q := fun q => (H.len _ ((Chg.refl _ _).drewN q)).mono fun e w' ⟨h1, h2⟩ => ⟨h1, h2.symm⟩
  have HH := Lib.hid H.has
  have HRH := Lib.hid H.rhas
  have HA := Lib.hid H.all
  have HRs := Lib.hid H.rs
  have hn := H.rs.nlen
  have hfew := H.few
  have HSm := Lib.hid (fun W v1 (h1 : Rs W 39 2 v1 l.length (nms l)) (h2 : Rs W 39 2 (.slice A n c) n (nms l)) => (rsame_any (w := W) (v1 := v1) (v2 := .slice A n c) h1 (hn ▸ h2) (by rw [← hn]; exact hfew) (by rw [← hn]; exact hfew) : Calls Try.prog 13 #[v1, .slice A n c] W fun e w' => e = .returned (.bool (decide (l = l))) ∧ Chg [] W w'))
  rw [decide_eq_true (Eq.refl l)] at HSm
  have c0 := H.cell
  have lr := H.lt
  have nn : ((n : Int) != (n : Int)) = false := by simp
  have x0 : ∀ x ∈ l.head?, ∃ b o, A = some ⟨b, o, none⟩ ∧ w.cell? ⟨b, o, none⟩ = some (.int .u64 x.1) := by
    intro x hx
    cases l with
    | nil => cases hx
    | cons y l =>
      cases hx
      obtain ⟨b, o, h1, _, h2, _⟩ := H.rs.nm 0 x rfl
      exact ⟨b, o, h1, by simpa using h2⟩
  have HN := Lib.hid hn
  cases l with
  | nil =>
    obtain rfl : n = 0 := hn
    clear H x0
    go_enter Try.func11, Try.ntmps11
    go_wp2_with (go_at_call 21; refine HX.mono ?_; rintro e w' ⟨rfl, rfl⟩)
    go_quiet ((go_at_call 16; exact Calls.quiet_of_same (HL _)))
    go_wp2
    have HC := Lib.hid (show Chg [] w (w.drewN nq) from (Chg.refl _ _).drewN nq)
    have c1 : (w.drewN nq).cell? ⟨r, 0, none⟩ = some (.slice A 0 c) := c0
    generalize w.drewN nq = W at *
    clear HL HX
    go_loopg [7] 13 (fun gh s wx => ∃ k : Nat, k + gh = 13 ∧ s = .int .i64 ((k : Int) - 1) ∧ W = wx)
    case atStart => exact ⟨0, by omega, rfl, rfl⟩
    case round =>
      obtain ⟨k, hk, rfl, rfl⟩ := hrel
      by_cases hlt : k < 13
      · have k1 : (k : Int) - 1 < 12 := by omega
        have hi : I64 ((k : Int) - 1) := ⟨by omega, by omega⟩
        have h1 := HH.out W HC.out ((k : Int) - 1) hi
        have h2 := HRH.out W HC.out ((k : Int) - 1)
        generalize hasP ((k : Int) - 1) ([] : List (Int × Int)) = q at *
        have qq : (q != q) = false := by simp
        go_wp2_with (first
          | (go_at_call 15; refine h1.mono ?_; rintro e w' ⟨rfl, rfl⟩)
          | (go_at_call 26; refine h2.mono ?_; rintro e w' ⟨rfl, rfl⟩))
        go_roundg (12 - k)
        case measure => omega
        case rel => exact ⟨k + 1, by omega, by go_num, rfl⟩
      · obtain rfl : k = 13 := by omega
        go_wp2
        go_region_held3 (fun w' => w'.cell? ⟨r, 0, none⟩ = some (.slice A 0 c))
          (first | go_keep)
          (first
            | (go_at_call 12; refine (HA.out _ HC.out.drew).mono ?_; rintro e w3 ⟨v3, rfl, hf3⟩; have k3 := (hf3.2.2.cell (p := ⟨r, 0, none⟩) (by have := HC.out.size; exact Nat.lt_of_lt_of_le lr this) (by simp)).trans c1; have HF3 := Lib.hid hf3; clear hf3)
            | (go_at_call 13; refine (HSm.out _ _ HF3.out.rs (HRs.out.quiet (HC.out.drew.then HF3.out.2.2))).mono ?_; rintro e w4 ⟨rfl, hc4⟩; have k4 := (hc4.cell (p := ⟨r, 0, none⟩) (by have := HC.out.size; have := HF3.out.2.2.size; exact Nat.lt_of_lt_of_le (Nat.lt_of_lt_of_le lr HC.out.size) HF3.out.2.2.size) (by simp)).trans k3; have HC4 := Lib.hid hc4; clear hc4))
        all_goals
          go_wp2
          go_ret
          exact ⟨rfl, (HC.out.drew.then HF3.out.2.2).then HC4.out⟩
  | cons x l =>
    obtain ⟨m, rfl⟩ : ∃ m, n = m + 1 := ⟨l.length, hn⟩
    obtain ⟨b, o, rfl, p0⟩ := x0 x rfl
    obtain ⟨xa, xi⟩ := x
    simp only at p0 HX
    have xx : (xa != xa) = false := by simp
    have z1 : (0 : Int) < (m : Int) + 1 := by omega
    clear H x0 hn
    go_enter Try.func11, Try.ntmps11
    go_wp2_with (go_at_call 21; refine HX.mono ?_; rintro e w' ⟨rfl, rfl⟩)
    go_quiet ((go_at_call 16; exact Calls.quiet_of_same (HL _)))
    go_wp2
    have HC := Lib.hid (show Chg [] w (w.drewN nq) from (Chg.refl _ _).drewN nq)
    have c1 : (w.drewN nq).cell? ⟨r, 0, none⟩ = some (.slice (some ⟨b, o, none⟩) (m + 1) c) := c0
    generalize w.drewN nq = W at *
    clear HL HX
    go_loopg [7] 13 (fun gh s wx => ∃ k : Nat, k + gh = 13 ∧ s = .int .i64 ((k : Int) - 1) ∧ W = wx)
    case atStart => exact ⟨0, by omega, rfl, rfl⟩
    case round =>
      obtain ⟨k, hk, rfl, rfl⟩ := hrel
      by_cases hlt : k < 13
      · have k1 : (k : Int) - 1 < 12 := by omega
        have hi : I64 ((k : Int) - 1) := ⟨by omega, by omega⟩
        have h1 := HH.out W HC.out ((k : Int) - 1) hi
        have h2 := HRH.out W HC.out ((k : Int) - 1)
        generalize hasP ((k : Int) - 1) ((xa, xi) :: l) = q at *
        have qq : (q != q) = false := by simp
        go_wp2_with (first
          | (go_at_call 15; refine h1.mono ?_; rintro e w' ⟨rfl, rfl⟩)
          | (go_at_call 26; refine h2.mono ?_; rintro e w' ⟨rfl, rfl⟩))
        go_roundg (12 - k)
        case measure => omega
        case rel => exact ⟨k + 1, by omega, by go_num, rfl⟩
      · obtain rfl : k = 13 := by omega
        go_wp2
        go_region_held3 (fun w' => w'.cell? ⟨r, 0, none⟩ = some (.slice (some ⟨b, o, none⟩) (m + 1) c))
          (first | go_keep)
          (first
            | (go_at_call 12; refine (HA.out _ HC.out.drew).mono ?_; rintro e w3 ⟨v3, rfl, hf3⟩; have k3 := (hf3.2.2.cell (p := ⟨r, 0, none⟩) (by have := HC.out.size; exact Nat.lt_of_lt_of_le lr this) (by simp)).trans c1; have HF3 := Lib.hid hf3; clear hf3)
            | (go_at_call 13; refine (HSm.out _ _ HF3.out.rs (HRs.out.quiet (HC.out.drew.then HF3.out.2.2))).mono ?_; rintro e w4 ⟨rfl, hc4⟩; have k4 := (hc4.cell (p := ⟨r, 0, none⟩) (by have := HC.out.size; have := HF3.out.2.2.size; exact Nat.lt_of_lt_of_le (Nat.lt_of_lt_of_le lr HC.out.size) HF3.out.2.2.size) (by simp)).trans k3; have HC4 := Lib.hid hc4; clear hc4))
        all_goals
          go_wp2
          go_ret
          exact ⟨rfl, (HC.out.drew.then HF3.out.2.2).then HC4.out⟩
end Go.Proofs
