import Derived.Test.YtocdkomjdcccoaaReC
import Derived.Deep.LoopGhost
namespace Go.Proofs
open Go.RowKit
set_option linter.unusedVariables false

def intQ : Value → Int
  | .int _ n => n
  | _ => 0
def U64 (x : Int) : Prop := 0 ≤ x ∧ x < 18446744073709551616
/-- All that is in the list fits into 48 bits. -/
def Ok (l : List Rf) : Prop := ∀ x ∈ l, U64 x.1 ∧ U64 x.2
theorem Ok.at {l : List Rf} (h : Ok l) {k : Nat} {x : Rf} (hk : l[k]? = some x) : U64 x.1 ∧ U64 x.2 := h x (List.mem_of_getElem? hk)
theorem Ok.nil : Ok [] := fun x hx => by cases hx
theorem Ok.append {a b : List Rf} (h : Ok a) (k : Ok b) : Ok (a ++ b) := fun x hx => (List.mem_append.1 hx).elim (h x) (k x)
theorem Ok.cons {x : Rf} {b : List Rf} (h1 : U64 x.1) (h2 : U64 x.2) (k : Ok b) : Ok (x :: b) := fun y hy => by
  rcases List.mem_cons.1 hy with rfl | hy
  · exact ⟨h1, h2⟩
  · exact k y hy
theorem Ok.tail {x : Rf} {b : List Rf} (h : Ok (x :: b)) : Ok b := fun y hy => h y (by simp [hy])
theorem Ok.head {x : Rf} {b : List Rf} (h : Ok (x :: b)) : U64 x.1 ∧ U64 x.2 := h x (by simp)
theorem Ok.take {l : List Rf} (h : Ok l) (k : Nat) : Ok (l.take k) := fun x hx => h x (List.mem_of_mem_take hx)
theorem Ok.drop {l : List Rf} (h : Ok l) (k : Nat) : Ok (l.drop k) := fun x hx => h x (List.mem_of_mem_drop hx)
/-- A list that came in: its cells are known, and nothing else. -/
def In (w : World) (v : Value) (l : List Rf) : Prop :=
  ∃ A c, v = .slice A l.length c ∧ ∀ k x, l[k]? = some x → ∃ b o, A = some ⟨b, o, none⟩ ∧ b < w.heap.size ∧ w.cell? ⟨b, o + k * 2, none⟩ = some (.int .u64 x.1) ∧ w.cell? ⟨b, o + k * 2 + 1, none⟩ = some (.int .u64 x.2)
theorem In.open_ {w : World} {v : Value} {l : List Rf} (h : In w v l) : ∃ A c, v = .slice A l.length c ∧ True ∧ True ∧ True ∧
    ∀ k x, l[k]? = some x → ∃ b o, A = some ⟨b, o, none⟩ ∧ b < w.heap.size ∧ w.cell? ⟨b, o + k * 2, none⟩ = some (.int .u64 x.1) ∧ w.cell? ⟨b, o + k * 2 + 1, none⟩ = some (.int .u64 x.2) := by
  obtain ⟨A, c, h1, h2⟩ := h
  exact ⟨A, c, h1, trivial, trivial, trivial, h2⟩
theorem Rd.inn {w : World} {v : Value} {l : List Rf} (h : Rd w v l) : In w v l := by
  obtain ⟨A, c, h1, _, _, _, h2⟩ := h.open_
  exact ⟨A, c, h1, h2⟩
theorem In.chg {w w' : World} {S : List Nat} {v : Value} {l : List Rf} (h : In w v l) (hc : Chg S w w') (hn : ∀ k ∈ S, w.heap.size ≤ k) : In w' v l := by
  obtain ⟨A, c, h1, h2⟩ := h
  refine ⟨A, c, h1, fun k x hk => ?_⟩
  obtain ⟨b, o, hA, lb, q0, q1⟩ := h2 k x hk
  have hb : b ∉ S := fun hm => by have := hn b hm; omega
  exact ⟨b, o, hA, Nat.lt_of_lt_of_le lb hc.size, (hc.cell (p := ⟨b, o + k * 2, none⟩) lb hb).trans q0, (hc.cell (p := ⟨b, o + k * 2 + 1, none⟩) lb hb).trans q1⟩
theorem In.quiet {w w' : World} {v : Value} {l : List Rf} (h : In w v l) (hc : Chg [] w w') : In w' v l := h.chg hc (fun k hk => by cases hk)
/-- All Amounts together. -/
def sumP : List Rf → Int
  | [] => 0
  | x :: l => x.1 + sumP l
theorem sumP_nonneg {l : List Rf} (h : Ok l) : 0 ≤ sumP l := by
  induction l with
  | nil => simp [sumP]
  | cons x l ih => have := ih h.tail; have := h.head.1.1; simp only [sumP]; omega
theorem sumP_append (a b : List Rf) : sumP (a ++ b) = sumP a + sumP b := by
  induction a with
  | nil => simp [sumP]
  | cons x l ih => simp only [List.cons_append, sumP, ih]; omega
theorem take_snoc {α : Type} {l : List α} {k : Nat} {x : α} (h : l[k]? = some x) : l.take (k + 1) = l.take k ++ [x] := by
  rw [List.take_add_one, h]; rfl
theorem sumP_snoc {l : List Rf} {k : Nat} {x : Rf} (h : l[k]? = some x) : sumP (l.take (k + 1)) = sumP (l.take k) + x.1 := by
  rw [take_snoc h, sumP_append]; simp [sumP]
theorem sumP_le {l : List Rf} (h : Ok l) (k : Nat) : sumP (l.take k) ≤ sumP l := by
  have h1 := sumP_append (l.take k) (l.drop k)
  rw [List.take_append_drop] at h1
  have := sumP_nonneg (h.drop k)
  omega
def sumF (l : List Rf) : Bool := decide (sumP l < 18446744073709551616)
def sumN (l : List Rf) : Int := if sumP l < 18446744073709551616 then sumP l else 0
theorem sum_over {l : List Rf} (h : Ok l) {k : Nat} {x : Rf} (hk : l[k]? = some x) (ho : ¬ sumP (l.take k) + x.1 < 18446744073709551616) : sumF l = false ∧ sumN l = 0 := by
  have h1 := sumP_snoc hk
  have h2 := sumP_le h (k + 1)
  unfold sumF sumN
  rw [if_neg (by omega)]
  exact ⟨by simp; omega, rfl⟩
theorem sum_all {l : List Rf} (h : sumP l < 18446744073709551616) : sumF l = true ∧ sumN l = sumP l := by
  unfold sumF sumN
  rw [if_pos h]
  exact ⟨by simpa using h, rfl⟩
theorem addF_yes {x y : Int} (h : x + y < 18446744073709551616) : addF x y = true ∧ addN x y = x + y := by
  unfold addF addN; rw [if_pos h]; exact ⟨by simpa using h, rfl⟩
theorem addF_no {x y : Int} (h : ¬ x + y < 18446744073709551616) : addF x y = false ∧ addN x y = 0 := by
  unfold addF addN; rw [if_neg h]; exact ⟨by simpa using h, rfl⟩

set_option maxHeartbeats 3200000 in
set_option maxRecDepth 100000 in
/-- All Amounts together, and do they fit? -/
theorem sum_any {w : World} {v : Value} {l : List Rf} (h : Rd w v l) (hk : Ok l) (hn : l.length ≤ 100000) :
    Calls Try.prog 38 #[v] w fun e w' => e = .returned (.tuple #[.int .u64 (sumN l), .bool (sumF l)]) ∧ Chg [] w w' := by
  obtain ⟨A, c, rfl, _, _, _, hcell⟩ := h.open_
  obtain ⟨n, e1⟩ : ∃ n, n = l.length := ⟨_, rfl⟩
  rw [← e1] at hn ⊢
  have HN := Lib.hid e1
  have HC := Lib.hid hcell
  have HK := Lib.hid hk
  clear h e1 hcell hk
  go_enter Try.func38, Try.ntmps38
  go_wp2
  go_loopg [4, 11] n (fun gh s i wx => ∃ k : Nat, k + gh = n ∧ i = .int .i64 k ∧ s = .int .u64 (sumP (l.take k)) ∧ Hid (sumP (l.take k) < 18446744073709551616 ∧ Chg [] w wx))
  case atStart => exact ⟨0, by omega, rfl, by simp [sumP], Lib.hid ⟨by simp [sumP], Chg.refl _ _⟩⟩
  case round =>
    obtain ⟨k, hk, rfl, rfl, HR⟩ := hrel
    by_cases hlt : k < n
    · have k0 : (0 : Int) ≤ (k : Int) := by omega
      have k1 : (k : Int) < (n : Int) := by omega
      obtain ⟨x, hx⟩ : ∃ x, l[k]? = some x := ⟨_, List.getElem?_eq_getElem (by rw [← HN.out]; exact hlt)⟩
      obtain ⟨b, o, rfl, lb, p0, p1⟩ := HC.out k x hx
      have hc := HR.out.2
      have x0 := (hc.cell (p := ⟨b, o + k * 2, none⟩) lb (by simp)).trans p0
      have x1 := (hc.cell (p := ⟨b, o + k * 2 + 1, none⟩) lb (by simp)).trans p1
      have HS := Lib.hid (sumP_snoc hx)
      have HX := Lib.hid hx
      have b0 := sumP_nonneg (HK.out.take k)
      have b1 := HR.out.1
      obtain ⟨⟨b2, b3⟩, _⟩ := HK.out.at hx
      obtain ⟨xa, xt⟩ := x
      simp only at x0 x1 b2 b3
      have hadd := fun W => add_any (sumP (l.take k)) xa b0 b2 b1 b3 W
      obtain ⟨S, hS⟩ : ∃ S, S = sumP (l.take k) := ⟨_, rfl⟩
      have HSS := Lib.hid hS
      rw [← hS] at hadd b0 b1 ⊢
      by_cases ho : S + xa < 18446744073709551616
      · obtain ⟨f1, f2⟩ := addF_yes ho
        rw [f1, f2] at hadd
        have HO := Lib.hid ho
        clear hx hc p0 p1 hS b0 b1 b2 b3 ho f1 f2
        go_wp2_with (go_at_call 43; refine (hadd _).mono ?_; rintro e w1 ⟨rfl, hc1⟩; have HC1 := Lib.hid hc1; clear hc1)
        go_roundg (n - k - 1)
        case measure => omega
        case rel => exact ⟨k + 1, by omega, by go_num, by rw [HS.out, HSS.out], Lib.hid ⟨by rw [HS.out, ← HSS.out]; exact HO.out, (HR.out.2.alloc _).then HC1.out⟩⟩
      · obtain ⟨f1, f2⟩ := addF_no ho
        rw [f1, f2] at hadd
        have HE := Lib.hid (sum_over HK.out HX.out (by rw [← HSS.out]; exact ho))
        clear hx hc p0 p1 hS b0 b1 b2 b3 ho f1 f2
        go_wp2_with (go_at_call 43; refine (hadd _).mono ?_; rintro e w1 ⟨rfl, hc1⟩; have HC1 := Lib.hid hc1; clear hc1)
        go_ret2
        exact ⟨by rw [HE.out.1, HE.out.2]; rfl, (HR.out.2.alloc _).then HC1.out⟩
    · obtain rfl : k = n := by omega
      have HT := Lib.hid (show l.take k = l by rw [HN.out, List.take_length])
      have HE := Lib.hid (sum_all (l := l) (by rw [← HT.out]; exact HR.out.1))
      rw [HT.out]
      obtain ⟨S, hS⟩ : ∃ S, S = sumP l := ⟨_, rfl⟩
      have HSS := Lib.hid hS
      rw [← hS]
      clear hS
      go_wp2
      go_ret2
      exact ⟨by rw [HE.out.1, HE.out.2, HSS.out]; rfl, HR.out.2⟩
end Go.Proofs
