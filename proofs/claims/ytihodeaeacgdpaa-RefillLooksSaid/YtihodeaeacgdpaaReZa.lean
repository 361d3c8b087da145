import Derived.Test.YtihodeaeacgdpaaReYa
import Derived.Test.YtihodeaeacgdpaaShelf
import Derived.Sort.AssemblyPlain
namespace Go.Proofs
open Go.RowKit Go.Sort
set_option linter.unusedVariables false

/-! ### slices.Sort of numbers -/
/-- The row at block g, of room cap, holds the numbers d; of the blocks that were there at most g has turned. -/
def Ud (w wx : World) (g cap : Nat) (d : Array Int) : Prop := Un wx (.slice (some ⟨g, 0, none⟩) d.size cap) d.toList ∧ Chg [g] w wx
section
variable {w wx w' : World} {g cap : Nat} {d : Array Int}
theorem Ud.cell (h : Ud w wx g cap d) {j : Nat} (hj : j < d.size) : wx.cell? ⟨g, j, none⟩ = some (.int .u64 d[j]!) := by
  obtain ⟨g', e, _, q⟩ := h.1.at_ (k := j) (x := d[j]!) (by rw [getElem!_pos d j hj, Array.getElem?_toList, Array.getElem?_eq_getElem hj])
  cases e
  exact q
theorem Ud.frozen (h : Ud w wx g cap d) (hn : 0 < d.size) (j : Nat) : wx.frozen? ⟨g, j, none⟩ = false := by
  obtain ⟨g', c, hv, _, _, _, hf, _⟩ := Row.form h.1 (by simpa using hn)
  simp only [Value.slice.injEq, Option.some.injEq, Addr.mk.injEq] at hv
  obtain ⟨⟨rfl, _⟩, _⟩ := hv
  exact hf j
theorem Ud.drewN (h : Ud w wx g cap d) (q : Nat) : Ud w (wx.drewN q) g cap d := ⟨Row.drewN h.1 q, h.2.drewN q⟩
theorem Ud.drew (h : Ud w wx g cap d) : Ud w wx.drew g cap d := ⟨Row.drew h.1, h.2.drew⟩
theorem Ud.set_ (h : Ud w wx g cap d) {j : Nat} (hj : j < d.size) (x : Int) : Ud w (wx.setCell ⟨g, j, none⟩ (.int .u64 x)) g cap (d.setIfInBounds j x) := by
  have hr : Row wx 23 1 (.slice (some ⟨g, 0, none⟩) d.size cap) d.size (u64s d.toList) := by have := h.1; unfold Un at this; simpa using this
  have h1 := Row.set_ hr (j := j) (by omega) (.int .u64 x)
  refine ⟨?_, h.2.setCell (p := ⟨g, j, none⟩) (.inl (by simp)) _⟩
  unfold Un
  rw [Array.length_toList, Array.size_setIfInBounds]
  have e : u64s (d.setIfInBounds j x).toList = (u64s d.toList).set j (.int .u64 x) := by unfold u64s; rw [Array.toList_setIfInBounds, List.map_set]
  rw [e]
  exact h1
theorem swpU_size (d : Array Int) (i j : Nat) : (swp d i j).size = d.size := by unfold swp; simp
/-- A swap, in memory. -/
theorem Ud.swap (h : Ud w wx g cap d) {i j : Nat} (hi : i < d.size) (hj : j < d.size) : Ud w ((wx.setCell ⟨g, i, none⟩ (.int .u64 d[j]!)).setCell ⟨g, j, none⟩ (.int .u64 d[i]!)) g cap (swp d i j) :=
  (h.set_ hi _).set_ (by simpa using hj) _
theorem Ud.then_ {w0 : World} (h0 : Chg [g] w0 w) (h : Ud w wx g cap d) : Ud w0 wx g cap d := ⟨h.1, h0.trans h.2 (fun k hk => .inl hk)⟩
end
theorem isNaN_u (x : Int) (w : World) : Calls Try.prog 65 #[.int .u64 x] w fun e w' => e = .returned (.bool false) ∧ w = w' := by
  have h : (x != x) = false := by simp
  go_enter Try.func65, Try.ntmps65
  go_wp2
  go_ret
  exact ⟨rfl, rfl⟩
theorem less_u (x y : Int) (w : World) : Calls Try.prog 54 #[.int .u64 x, .int .u64 y] w fun e w' => e = .returned (.bool (ltInt x y)) ∧ w = w' := by
  unfold ltInt
  go_enter Try.func54, Try.ntmps54
  go_wp2_with (go_at_call 65; refine (isNaN_u _ _).mono ?_; rintro e w' ⟨rfl, rfl⟩)
  go_ret
  exact ⟨rfl, rfl⟩
theorem swp_comm (d : Array Int) {i j : Nat} (h : i ≠ j) : (d.setIfInBounds j d[i]!).setIfInBounds i d[j]! = swp d i j := by
  unfold swp
  refine Array.ext_getElem? fun k => ?_
  rw [Array.getElem?_setIfInBounds, Array.getElem?_setIfInBounds, Array.getElem?_setIfInBounds, Array.getElem?_setIfInBounds]
  by_cases h1 : i = k
  · subst h1
    have : ¬ j = i := fun e => h e.symm
    simp [this]
  · by_cases h2 : j = k
    · subst h2; simp [h1]
    · simp [h1, h2]
theorem Ud.swap' {w wx : World} {g cap : Nat} {d : Array Int} (h : Ud w wx g cap d) {i j : Nat} (hi : i < d.size) (hj : j < d.size) (hne : i ≠ j) : Ud w ((wx.setCell ⟨g, j, none⟩ (.int .u64 d[i]!)).setCell ⟨g, i, none⟩ (.int .u64 d[j]!)) g cap (swp d i j) := by
  rw [← swp_comm d hne]
  exact (h.set_ hj _).set_ (by simpa using hi) _
theorem insI_go (a j : Nat) (d : Array Int) (hj : a < j + 1) (hl : ltInt d[j + 1]! d[j]! = true) : insInner ltInt a (j + 1) d = insInner ltInt a j (swp d (j + 1) j) := by
  rw [insInner, if_pos (by simp [hl]; omega)]
theorem insI_no (a j : Nat) (d : Array Int) (hl : ltInt d[j + 1]! d[j]! = false) : insInner ltInt a (j + 1) d = d := by
  rw [insInner, if_neg (by simp [hl])]
theorem insI_end (a j : Nat) (d : Array Int) (h : j ≤ a) : insInner ltInt a j d = d := by
  cases j with
  | zero => rw [insInner]
  | succ k => rw [insInner, if_neg (by simp; omega)]
theorem insO_go (a b i : Nat) (d : Array Int) (h : i < b) : insOuter ltInt a b i d = insOuter ltInt a b (i + 1) (insInner ltInt a i d) := by rw [insOuter, if_pos h]
theorem insO_end (a b i : Nat) (d : Array Int) (h : ¬ i < b) : insOuter ltInt a b i d = d := by rw [insOuter, if_neg h]
set_option maxHeartbeats 6400000 in
set_option maxRecDepth 100000 in
theorem ins_u {w0 w : World} {g cap : Nat} {d : Array Int} (h : Ud w0 w g cap d) (a b : Nat) (hab : a ≤ b) (hb : b ≤ d.size) (hsz : d.size ≤ 100000) :
    Calls Try.prog 48 #[.slice (some ⟨g, 0, none⟩) d.size cap, .int .i64 a, .int .i64 b] w fun e w' => e = .returned (.tuple #[]) ∧ Ud w0 w' g cap (insertionSort ltInt d a b) := by
  obtain ⟨n, hn⟩ : ∃ n, n = d.size := ⟨_, rfl⟩
  have HI0 := Lib.hid (show Ud w0 w g cap d ∧ d.size = n ∧ insOuter ltInt a b (a + 1) d = insertionSort ltInt d a b from ⟨h, hn.symm, rfl⟩)
  rw [← hn] at hb hsz ⊢
  obtain ⟨R, hR⟩ : ∃ R, R = insertionSort ltInt d a b := ⟨_, rfl⟩
  rw [← hR] at HI0 ⊢
  clear h hn hR
  go_enter Try.func48, Try.ntmps48
  go_wp2
  go_loopg [6] (b + 1) (fun gi s6 wx => ∃ (i : Nat) (dk : Array Int), (i + gi = a + b + 2 ∧ a < i ∧ i ≤ b + 1) ∧ s6 = .int .i64 i ∧ Hid (Ud w0 wx g cap dk ∧ dk.size = n ∧ insOuter ltInt a b i dk = R))
  case atStart => exact ⟨a + 1, d, ⟨by omega, by omega, by omega⟩, by go_num, Lib.hid HI0.out⟩
  case round =>
    obtain ⟨i, dk, ⟨hi, hai, hib⟩, rfl, HR⟩ := hrel
    by_cases hlt : i < b
    · have k1 : (i : Int) < (b : Int) := by omega
      have k2 : decide ((i : Int) < (b : Int)) = true := by simpa using hlt
      have HIN := Lib.hid (show Ud w0 wr g cap dk ∧ dk.size = n ∧ insInner ltInt a i dk = insInner ltInt a i dk from ⟨HR.out.1, HR.out.2.1, rfl⟩)
      go_wp2
      go_loopg [7] i (fun gj s7 wy => ∃ (j : Nat) (dj : Array Int), j = gj ∧ (a ≤ j ∧ j ≤ i) ∧ s7 = .int .i64 j ∧ Hid (Ud w0 wy g cap dj ∧ dj.size = n ∧ insInner ltInt a j dj = insInner ltInt a i dk))
      case atStart => exact ⟨i, dk, rfl, ⟨by omega, Nat.le_refl _⟩, rfl, Lib.hid ⟨HIN.out.1, HIN.out.2.1, rfl⟩⟩
      case round =>
        obtain ⟨j, dj, rfl, ⟨haj, hji⟩, rfl, HJ⟩ := hrel
        have f0 := HJ.out.1.frozen (by rw [HJ.out.2.1]; omega) j
        have hout : ∀ q, insInner ltInt a j dj = dj → Ud w0 (wr.drewN q) g cap dj ∧ dj.size = n ∧ insOuter ltInt a b (i + 1) dj = R := fun q hq =>
          ⟨HJ.out.1.drewN q, HJ.out.2.1, by rw [← HR.out.2.2, insO_go _ _ _ _ hlt, ← HJ.out.2.2, hq]⟩
        have HOUT := Lib.hid hout
        clear hout
        by_cases haj' : a < j
        · obtain ⟨p, hp⟩ : ∃ p, j = p + 1 := ⟨j - 1, by omega⟩
          have f1 := HJ.out.1.frozen (by rw [HJ.out.2.1]; omega) p
          have c0 := HJ.out.1.cell (j := j) (by rw [HJ.out.2.1]; omega)
          have c1 := HJ.out.1.cell (j := p) (by rw [HJ.out.2.1]; omega)
          have hne1 : ¬ p = j := by omega
          have hne2 : ¬ j = p := by omega
          have hs1 := fun q => (HJ.out.1.drewN q).swap (i := j) (j := p) (by rw [HJ.out.2.1]; omega) (by rw [HJ.out.2.1]; omega)
          have hs2 := fun q => (HJ.out.1.drewN q).swap' (i := j) (j := p) (by rw [HJ.out.2.1]; omega) (by rw [HJ.out.2.1]; omega) (by omega)
          have hgo := insI_go a p dj (by omega)
          have hno := insI_no a p dj
          rw [← hp] at hgo hno
          obtain ⟨x, hx⟩ : ∃ x, x = dj[j]! := ⟨_, rfl⟩
          obtain ⟨y, hy⟩ : ∃ y, y = dj[p]! := ⟨_, rfl⟩
          rw [← hx] at c0 hs1 hs2 hgo hno
          rw [← hy] at c1 hs1 hs2 hgo hno
          have i0 : (0 : Int) ≤ (j : Int) := by omega
          have i1 : (j : Int) < (n : Int) := by omega
          have i2 : (0 : Int) ≤ (p : Int) := by omega
          have i3 : (p : Int) < (n : Int) := by omega
          have i4 : IntKind.i64.wrap ((j : Int) - 1) = (p : Int) := by rw [IntWalk.i64_in _ (by omega)]; omega
          have g1 : decide ((j : Int) > (a : Int)) = true := by simp; omega
          have g1' : decide ((a : Int) < (j : Int)) = true := by simp; omega
          have g1'' : decide (a < j) = true := by simp; omega
          have hL : ∀ W, Calls Try.prog 54 #[.int .u64 x, .int .u64 y] W fun e w' => e = .returned (.bool (ltInt x y)) ∧ w' = W := fun W => (less_u x y W).mono fun e w' ⟨h1, h2⟩ => ⟨h1, h2.symm⟩
          have HP := Lib.hid hp
          clear hp
          cases hl : ltInt x y with
          | true =>
            rw [hl] at hL
            have HS1 := Lib.hid hs1
            have HS2 := Lib.hid hs2
            have HGO := Lib.hid (hgo hl)
            clear hs1 hs2 hgo hno hx hy hl
            go_wp2
            go_quiet ((go_at_call 54; exact Calls.quiet_of_same (hL _)))
            go_wp2
            go_region
            all_goals
              go_wp2
              go_roundg p
              case measure => have := HP.out; omega
              case rel =>
                have hp := HP.out
                first
                  | exact ⟨p, _, rfl, ⟨by omega, by omega⟩, rfl, Lib.hid ⟨HS1.out _, by rw [swpU_size]; exact HJ.out.2.1, by rw [← HGO.out]; exact HJ.out.2.2⟩⟩
                  | exact ⟨p, _, rfl, ⟨by omega, by omega⟩, rfl, Lib.hid ⟨HS2.out _, by rw [swpU_size]; exact HJ.out.2.1, by rw [← HGO.out]; exact HJ.out.2.2⟩⟩
          | false =>
            rw [hl] at hL
            have HNO := Lib.hid (hno hl)
            clear hs1 hs2 hgo hno hx hy hl
            go_wp2
            go_quiet ((go_at_call 54; exact Calls.quiet_of_same (hL _)))
            go_wp2
            go_roundg (a + b + 2 - (i + 1))
            case measure => omega
            case rel => exact ⟨i + 1, dj, ⟨by omega, by omega, by omega⟩, by go_num, Lib.hid (HOUT.out _ HNO.out)⟩
        · have g1 : decide ((j : Int) > (a : Int)) = false := by simp; omega
          have g1' : decide ((a : Int) < (j : Int)) = false := by simp; omega
          have g1'' : decide (a < j) = false := by simp; omega
          have HEN := Lib.hid (insI_end a j dj (by omega))
          go_wp2
          go_quiet (fail)
          go_wp2
          go_roundg (a + b + 2 - (i + 1))
          case measure => omega
          case rel => exact ⟨i + 1, dj, ⟨by omega, by omega, by omega⟩, by go_num, Lib.hid (HOUT.out _ HEN.out)⟩
    · have k1 : ¬ (i : Int) < (b : Int) := by omega
      have k2 : decide ((i : Int) < (b : Int)) = false := by simpa using hlt
      have HE := Lib.hid (show R = dk by rw [← HR.out.2.2, insO_end _ _ _ _ hlt])
      go_wp2
      go_end0
      exact ⟨rfl, by rw [HE.out]; exact HR.out.1⟩
end Go.Proofs
