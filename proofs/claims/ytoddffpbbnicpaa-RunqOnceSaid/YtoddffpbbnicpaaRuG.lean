import Derived.Test.YtoddffpbbnicpaaRuF
import Derived.Deep.LoopGhost
import Derived.WalkMore
namespace Go.Proofs
open Go.RowKit
set_option linter.unusedVariables false

theorem upTo_next {l1 l2 : List Int} {k : Nat} (hk : k < 2) : ∃ l, upTo l1 l2 (k + 1) = upTo l1 l2 k ++ l ∧ ((k = 0 ∧ l = l1) ∨ (k = 1 ∧ l = l2)) := by
  match k, hk with
  | 0, _ => exact ⟨l1, rfl, .inl ⟨rfl, rfl⟩⟩
  | 1, _ => exact ⟨l2, rfl, .inr ⟨rfl, rfl⟩⟩
theorem upTo_pre (l1 l2 : List Int) {k : Nat} (hk : k ≤ 2) : ∃ r, l1 ++ l2 = upTo l1 l2 k ++ r := by
  match k, hk with
  | 0, _ => exact ⟨l1 ++ l2, rfl⟩
  | 1, _ => exact ⟨l2, rfl⟩
  | 2, _ => exact ⟨[], by simp [upTo]⟩
/-- None of the first n is x. -/
def NoneOf (x : Int) (L : List Int) (n : Nat) : Prop := ∀ j, j < n → L[j]? ≠ some x
theorem NoneOf.snoc {x : Int} {L : List Int} {n : Nat} (h : NoneOf x L n) {y : Int} (hy : L[n]? = some y) (hne : y ≠ x) : NoneOf x L (n + 1) := fun j hj => by
  by_cases e : j = n
  · subst e; rw [hy]; intro h; exact hne (Option.some.inj h)
  · exact h j (by omega)
/-- What a search answers. -/
def Finds (x : Int) (L : List Int) (w : World) (e : Ending) (w' : World) : Prop :=
  e = .returned (.tuple #[.int .i64 (findAt x L), .bool (decide (findAt x L < L.length))]) ∧ Chg [] w w'
theorem Finds.yes {x : Int} {L : List Int} {n : Nat} {w w' : World} (h : NoneOf x L n) (hy : L[n]? = some x) (hc : Chg [] w w') : Finds x L w (.returned (.tuple #[.int .i64 (n : Nat), .bool true])) w' := by
  have e := findAt_first h hy
  have hl := (List.getElem?_eq_some_iff.1 hy).1
  exact ⟨by rw [e, decide_eq_true hl], hc⟩
theorem Finds.no {x : Int} {L : List Int} {w w' : World} (h : NoneOf x L L.length) (hc : Chg [] w w') : Finds x L w (.returned (.tuple #[.int .i64 (L.length : Nat), .bool false])) w' := by
  have e := findAt_none h
  exact ⟨by rw [e, decide_eq_false (by omega)], hc⟩
set_option maxHeartbeats 3200000 in
set_option maxRecDepth 100000 in
theorem find_of {w : World} {r : Value} {L : List Int} (hL : L.length ≤ 8192) (H : Has w r L) (x : Int) :
    Calls Try.prog 60 #[r, .int .i64 x] w (Finds x L w) := by
  have HP := (H w (Chg.refl _ _)).1
  have HH := Lib.hid H
  clear H
  obtain ⟨m, hm⟩ : ∃ m, m = L.length := ⟨_, rfl⟩
  have HM := Lib.hid hm
  rw [← hm] at hL
  clear hm
  go_enter Try.func60, Try.ntmps60
  go_wp2
  go_step3
  go_wp2
  go_step3
  go_wp2_with (go_at_call 65; refine HP.mono ?_; rintro e w1 ⟨v, S, rfl, ⟨v1, v2, l1, l2, rfl, r1, r2, hl, _, _⟩, hc⟩; obtain ⟨A1, c1, rfl, _, _, _, o1⟩ := r1.open_; obtain ⟨A2, c2, rfl, _, _, _, o2⟩ := r2.open_; have HL := Lib.hid hl; have HC := Lib.hid hc; clear r1 r2 hl hc HP)
  have hidx : ∀ k : Nat, k < 2 → ∀ l, upTo l1 l2 (k + 1) = upTo l1 l2 k ++ l → ∃ A c, (∀ W, (Instr.index 83 (.agg #[.slice A1 l1.length c1, .slice A2 l2.length c2]) (.int .i64 (k : Nat))).run Try.prog W = .ok (.slice A l.length c) W) ∧ ∀ j y, l[j]? = some y → ∃ b o, A = some ⟨b, o, none⟩ ∧ w1.cell? ⟨b, o + j, none⟩ = some (.int .i64 y) := by
    intro k hk l he
    match k, hk with
    | 0, _ =>
      obtain rfl : l1 = l := by simpa [upTo] using he
      exact ⟨A1, c1, fun _ => by kernel_rfl, fun j y hj => by obtain ⟨b, o, h1, _, h2⟩ := o1 j y hj; exact ⟨b, o, h1, h2⟩⟩
    | 1, _ =>
      obtain rfl : l2 = l := by simpa [upTo] using he
      exact ⟨A2, c2, fun _ => by kernel_rfl, fun j y hj => by obtain ⟨b, o, h1, _, h2⟩ := o2 j y hj; exact ⟨b, o, h1, h2⟩⟩
  have HI := Lib.hid hidx
  have HLen : ∀ W, W = w1 → Calls Try.prog 49 #[r] W fun e w' => e = .returned (.int .i64 (m : Nat)) ∧ W = w' := by
    rintro W rfl
    rw [HM.out]
    exact (HH.out _ HC.out).2
  clear hidx o1 o2
  go_loopg [6, 13] 2 (fun g s6 s13 wx => ∃ k b : Nat, k + g = 2 ∧ s13 = .int .i64 k ∧ s6 = .int .i64 b ∧ Hid (b = (upTo l1 l2 k).length ∧ NoneOf x L b) ∧ w1 = wx)
  case atStart => exact ⟨0, 0, rfl, rfl, rfl, Lib.hid ⟨rfl, fun j hj => by omega⟩, rfl⟩
  case round =>
    obtain ⟨k, b, hkg, rfl, rfl, HB, rfl⟩ := hrel
    cases gk with
    | zero =>
      obtain rfl : k = 2 := by omega
      have hb : b = m := by have := HB.out.1; rw [this, HM.out, HL.out]; rfl
      subst hb
      go_wp2_with (go_at_call 49; refine (HLen _ rfl).mono ?_; rintro e w' ⟨rfl, rfl⟩)
      rw [Exit.noGoto_ret]
      go_ret2
      have := HB.out.2
      rw [HM.out] at this
      rw [HM.out]
      exact Finds.no this HC.out
    | succ g =>
      obtain ⟨l, hl, _⟩ := upTo_next (l1 := l1) (l2 := l2) (k := k) (by omega)
      obtain ⟨A, c, hix, hcell⟩ := HI.out k (by omega) l hl
      obtain ⟨rest, hrest⟩ := upTo_pre l1 l2 (k := k + 1) (by omega)
      have hkz : (k : Int) < 2 := by omega
      have HUL := Lib.hid hl
      have HRS := Lib.hid hrest
      obtain ⟨n, hn⟩ : ∃ n, n = l.length := ⟨_, rfl⟩
      rw [← hn] at hix
      have HN := Lib.hid hn
      have hbm : b + n ≤ m := by rw [HM.out, HL.out, hrest, hl, hn, HB.out.1]; simp
      have hat : ∀ j y, l[j]? = some y → L[b + j]? = some y := fun j y hj => by
        have hjl := (List.getElem?_eq_some_iff.1 hj).1
        rw [HL.out, hrest, hl, HB.out.1, List.append_assoc, List.getElem?_append_right (by omega), Nat.add_sub_cancel_left, List.getElem?_append_left hjl]
        exact hj
      have HAT := Lib.hid hat
      have HCE := Lib.hid hcell
      clear hl hrest hn hat hcell
      go_wp2
      go_loopg [6, 18] n (fun g2 s6 s18 wy => ∃ j : Nat, j + g2 = n ∧ s18 = .int .i64 j ∧ s6 = .int .i64 ((b + j : Nat) : Int) ∧ Hid (NoneOf x L (b + j)) ∧ w1 = wy)
      case atStart => exact ⟨0, by omega, rfl, rfl, Lib.hid (by rw [Nat.add_zero]; exact HB.out.2), rfl⟩
      case round =>
        obtain ⟨j, hjg, rfl, rfl, HJ, rfl⟩ := hrel
        cases gk with
        | zero =>
          obtain rfl : j = n := by omega
          go_wp2
          go_roundg g
          case measure => omega
          case rel => exact ⟨k + 1, b + j, by omega, by go_num, rfl, Lib.hid ⟨by rw [HUL.out, List.length_append, ← HN.out, ← HB.out.1], HJ.out⟩, rfl⟩
        | succ g2 =>
          obtain ⟨y, hy⟩ : ∃ y, l[j]? = some y := ⟨_, List.getElem?_eq_getElem (by rw [← HN.out]; omega)⟩
          obtain ⟨bb, o, rfl, hce⟩ := HCE.out j y hy
          have hyL := Lib.hid (HAT.out j y hy)
          have i0 : (0 : Int) ≤ (j : Int) := by omega
          have i1 : (j : Int) < (n : Int) := by omega
          clear hy
          by_cases hxy : y = x
          · subst hxy
            have hbj : b + j < m := by omega
            have hbj' : ((b : Int) + (j : Int)) < (m : Int) := by omega
            go_wp2_with (go_at_call 49; refine (HLen _ rfl).mono ?_; rintro e w' ⟨rfl, rfl⟩)
            rw [Exit.noGoto_ret]
            go_ret2
            have := Finds.yes HJ.out hyL.out HC.out
            exact this
          · have hb : (y == x) = false := by simpa using hxy
            have HX := Lib.hid hxy
            clear hxy
            go_wp2
            go_roundg g2
            case measure => omega
            case rel => exact ⟨j + 1, by omega, by go_num, by go_num, Lib.hid (HJ.out.snoc hyL.out HX.out), rfl⟩
end Go.Proofs
