import Derived.Test.YtocdkomjdcccoaaCoH
namespace Go.Proofs
open Go.RowKit
set_option linter.unusedVariables false

/-! ### What a call is refused by -/
/-- The function value v, called in any world in which nothing turned, answers b, and turns nothing. -/
def Clo (w : World) (v : Value) (b : Bool) : Prop := ∃ f rs cs, v = .func (.func f) rs cs ∧ (∀ W, (callFunc f (rs ++ cs)).run Try.prog W = .ok (.enter f (rs ++ cs)) W) ∧ ∀ W, Chg [] w W → Calls Try.prog f (rs ++ cs) W fun e W' => e = .returned (.bool b) ∧ Chg [] W W'
theorem Clo.quiet {w w' : World} {v : Value} {b : Bool} (h : Clo w v b) (hc : Chg [] w w') : Clo w' v b := by
  obtain ⟨f, rs, cs, rfl, h0, h1⟩ := h
  exact ⟨f, rs, cs, rfl, h0, fun W hW => h1 W (hc.then hW)⟩
abbrev Rfs3 := List (Int × Value × Bool)
def rowC (L : Rfs3) : List Value := L.flatMap fun x => [.int .i64 x.1, x.2.1]
def firstE : Rfs3 → Int
  | [] => 0
  | x :: r => if x.2.2 then x.1 else firstE r
theorem firstE_at {L : Rfs3} {k : Nat} {x : Int × Value × Bool} (hx : L[k]? = some x) (hb : x.2.2 = true) (h : ∀ (j : Nat) (y : Int × Value × Bool), j < k → L[j]? = some y → y.2.2 = false) : firstE L = x.1 := by
  induction L generalizing k with
  | nil => simp at hx
  | cons a L ih =>
    cases k with
    | zero => simp at hx; subst hx; unfold firstE; rw [if_pos hb]
    | succ k =>
      have h0 := h 0 a (by omega) (by simp)
      unfold firstE
      rw [h0, if_neg (by simp)]
      exact ih (by simpa using hx) (fun j y hj hy => h (j + 1) y (by omega) (by simpa using hy))
theorem firstE_none {L : Rfs3} (h : ∀ (j : Nat) (y : Int × Value × Bool), j < L.length → L[j]? = some y → y.2.2 = false) : firstE L = 0 := by
  induction L with
  | nil => rfl
  | cons a L ih =>
    have h0 := h 0 a (by simp) (by simp)
    unfold firstE
    rw [h0, if_neg (by simp)]
    exact ih (fun j y hj hy => h (j + 1) y (by simp; omega) (by simpa using hy))
theorem rowC_at {L : Rfs3} {k : Nat} {x : Int × Value × Bool} (h : L[k]? = some x) : (rowC L)[k * 2]? = some (.int .i64 x.1) ∧ (rowC L)[k * 2 + 1]? = some x.2.1 :=
  ⟨flat_at (enc := fun x : Int × Value × Bool => [.int .i64 x.1, x.2.1]) (s := 2) (fun _ => rfl) (j := 0) h rfl, flat_at (enc := fun x : Int × Value × Bool => [.int .i64 x.1, x.2.1]) (s := 2) (fun _ => rfl) (j := 1) h rfl⟩
set_option maxHeartbeats 3200000 in
set_option maxRecDepth 100000 in
theorem refused_any {w : World} {B n : Nat} {L : Rfs3} (hB : Blk w B 55 (rowC L).toArray) (hn : n = L.length) (hn9 : n ≤ 9)
    (hC : ∀ (k : Nat) (x : Int × Value × Bool), L[k]? = some x → (∀ (j : Nat) (y : Int × Value × Bool), j < k → L[j]? = some y → y.2.2 = false) → Clo w x.2.1 x.2.2) :
    Calls Try.prog 14 #[.slice (some ⟨B, 0, none⟩) n n] w fun e w' => e = .returned (.int .i64 (firstE L)) ∧ Chg [] w w' := by
  have HN := Lib.hid hn
  have HC := Lib.hid hC
  have HB := Lib.hid hB
  clear hB hC hn
  go_enter Try.func14, Try.ntmps14
  go_wp2
  go_loopg [7] n (fun gh i wx => ∃ k : Nat, k + gh = n ∧ i = .int .i64 k ∧ Hid (Chg [] w wx ∧ ∀ (j : Nat) (y : Int × Value × Bool), j < k → L[j]? = some y → y.2.2 = false))
  case atStart => exact ⟨0, by omega, rfl, Lib.hid ⟨Chg.refl _ _, fun j y hj => by omega⟩⟩
  case round =>
    obtain ⟨k, hk, rfl, HR⟩ := hrel
    by_cases hlt : k < n
    · have k0 : (0 : Int) ≤ (k : Int) := by omega
      have k1 : (k : Int) < (n : Int) := by omega
      obtain ⟨x, hx⟩ : ∃ x, L[k]? = some x := ⟨_, List.getElem?_eq_getElem (by rw [← HN.out]; exact hlt)⟩
      have hB1 := HB.out.chg HR.out.1 (by simp)
      have x0 : wr.cell? ⟨B, k * 2, none⟩ = some (.int .i64 x.1) := (hB1.cell (k * 2)).trans (by rw [List.getElem?_toArray]; exact (rowC_at hx).1)
      have x1 : wr.cell? ⟨B, k * 2 + 1, none⟩ = some x.2.1 := (hB1.cell (k * 2 + 1)).trans (by rw [List.getElem?_toArray]; exact (rowC_at hx).2)
      obtain ⟨f, rs, cs, hv, hrun, hcall⟩ := HC.out k x hx HR.out.2
      obtain ⟨ex, vx, bx⟩ := x
      simp only at hv x0 x1 hcall
      obtain ⟨az, has⟩ : ∃ az, az = rs ++ cs := ⟨_, rfl⟩
      rw [← has] at hrun hcall
      subst hv
      have HX := Lib.hid hx
      have lB := hB1.lt
      have hstep := fun W (hW : Chg [] wr W) => hcall W (HR.out.1.then hW)
      clear hx hcall hB1
      have HAS := Lib.hid has
      clear has
      cases bx with
      | true =>
        have HZ := Lib.hid (firstE_at HX.out rfl HR.out.2)
        go_wp2_with (fail)
        rw [← HAS.out, hrun]
        refine (hstep _ ((Chg.refl _ _).alloc _)).mono ?_
        rintro e w1 ⟨rfl, hc1⟩
        have hB1 := (Blk.new wr 55 #[.int .i64 ex, .func (.func f) rs cs]).chg hc1 (by simp)
        have lb1 := hB1.lt
        have z0 := hB1.cell 0
        have HC1 := Lib.hid hc1
        clear hc1 hB1
        go_wp2
        go_ret
        exact ⟨by rw [HZ.out]; rfl, (HR.out.1.alloc _).then HC1.out⟩
      | false =>
        have HZ := Lib.hid (show ∀ (j : Nat) (y : Int × Value × Bool), j < k + 1 → L[j]? = some y → y.2.2 = false from fun j y hj hy => by
          by_cases e : j = k
          · subst e
            rw [HX.out] at hy
            cases hy
            rfl
          · exact HR.out.2 j y (by omega) hy)
        go_wp2_with (fail)
        rw [← HAS.out, hrun]
        refine (hstep _ ((Chg.refl _ _).alloc _)).mono ?_
        rintro e w1 ⟨rfl, hc1⟩
        have HC1 := Lib.hid hc1
        clear hc1
        go_wp2
        go_roundg (n - k - 1)
        case measure => omega
        case rel => exact ⟨k + 1, by omega, by go_num, Lib.hid ⟨(HR.out.1.alloc _).then HC1.out, HZ.out⟩⟩
    · have hkn : k = n := by omega
      have HZ := Lib.hid (firstE_none (L := L) (fun j y hj hy => HR.out.2 j y (by have := HN.out; omega) hy))
      subst hkn
      go_wp2
      go_ret
      exact ⟨by rw [HZ.out]; rfl, HR.out.1⟩
theorem run_49 (a : Value) (W : World) : (callFunc 15 (#[a] ++ #[])).run Try.prog W = .ok (.enter 15 (#[a] ++ #[])) W := by kernel_rfl
end Go.Proofs
