import Derived.Test.YtncpeemghnmakaaM6
import Derived.Laws.EntriesVeiled
import Derived.Deep.RegionHeld3
section
namespace Go.Proofs
open Go.RowKit
set_option linter.unusedVariables false

/-! ### What a call is refused by -/
/-- The function value v, called in any world in which nothing turned, answers b, and turns nothing. -/
def Clo (w : World) (v : Value) (b : Bool) : Prop := ∃ f rs cs, v = .func (.func f) rs cs ∧ (∀ W, (callFunc f (rs ++ cs)).run Try.prog W = .ok (.enter f (rs ++ cs)) W) ∧ ∀ W, Chg [] w W → Calls Try.prog f (rs ++ cs) W fun e W' => e = .returned (.bool b) ∧ Chg [] W W'
theorem Clo.quiet {w w' : World} {v : Value} {b : Bool} (h : Clo w v b) (hc : Chg [] w w') : Clo w' v b := by
  obtain ⟨f, rs, cs, rfl, h0, h1⟩ := h
  exact ⟨f, rs, cs, rfl, h0, fun W hW => h1 W (hc.then hW)⟩
abbrev Rfs3 := List (Int × Value × Bool)
def rowC (L : Rfs3) : List Value := L.flatMap fun x => [.int .i64 x.1, x.2.1]
def firstE : Rfs3 → Int
  | [] => 0
  | x :: r => if x.2.2 then firstE r else x.1
theorem firstE_at {L : Rfs3} {k : Nat} {x : Int × Value × Bool} (hx : L[k]? = some x) (hb : x.2.2 = false) (h : ∀ (j : Nat) (y : Int × Value × Bool), j < k → L[j]? = some y → y.2.2 = true) : firstE L = x.1 := by
  induction L generalizing k with
  | nil => simp at hx
  | cons a L ih =>
    cases k with
    | zero => simp at hx; subst hx; unfold firstE; rw [if_neg (by rw [hb]; simp)]
    | succ k =>
      have h0 := h 0 a (by omega) (by simp)
      unfold firstE
      rw [h0, if_pos rfl]
      exact ih (by simpa using hx) (fun j y hj hy => h (j + 1) y (by omega) (by simpa using hy))
theorem firstE_none {L : Rfs3} (h : ∀ (j : Nat) (y : Int × Value × Bool), j < L.length → L[j]? = some y → y.2.2 = true) : firstE L = 0 := by
  induction L with
  | nil => rfl
  | cons a L ih =>
    have h0 := h 0 a (by simp) (by simp)
    unfold firstE
    rw [h0, if_pos rfl]
    exact ih (fun j y hj hy => h (j + 1) y (by simp; omega) (by simpa using hy))
theorem rowC_at {L : Rfs3} {k : Nat} {x : Int × Value × Bool} (h : L[k]? = some x) : (rowC L)[k * 2]? = some (.int .i64 x.1) ∧ (rowC L)[k * 2 + 1]? = some x.2.1 :=
  ⟨flat_at (enc := fun x : Int × Value × Bool => [.int .i64 x.1, x.2.1]) (s := 2) (fun _ => rfl) (j := 0) h rfl, flat_at (enc := fun x : Int × Value × Bool => [.int .i64 x.1, x.2.1]) (s := 2) (fun _ => rfl) (j := 1) h rfl⟩
set_option maxHeartbeats 3200000 in
set_option maxRecDepth 100000 in
theorem refused_any {w : World} {B n : Nat} {L : Rfs3} (hB : Blk w B 101 (rowC L).toArray) (hn : n = L.length) (hn9 : n ≤ 9)
    (hC : ∀ (k : Nat) (x : Int × Value × Bool), L[k]? = some x → (∀ (j : Nat) (y : Int × Value × Bool), j < k → L[j]? = some y → y.2.2 = true) → Clo w x.2.1 x.2.2) :
    Calls Try.prog 54 #[.slice (some ⟨B, 0, none⟩) n n] w fun e w' => e = .returned (.int .i64 (firstE L)) ∧ Chg [] w w' := by
  have HN := Lib.hid hn
  have HC := Lib.hid hC
  have HB := Lib.hid hB
  clear hB hC hn
  go_enter Try.func54, Try.ntmps54
  go_wp2
  go_loopg [7] n (fun gh i wx => ∃ k : Nat, k + gh = n ∧ i = .int .i64 k ∧ Hid (Chg [] w wx ∧ ∀ (j : Nat) (y : Int × Value × Bool), j < k → L[j]? = some y → y.2.2 = true))
  case atStart => exact ⟨0, by omega, rfl, Lib.hid ⟨Chg.refl _ _, fun j y hj => by omega⟩⟩
  case round =>
    obtain ⟨k, hk, rfl, HR⟩ := hrel
    by_cases hlt : k < n
    · have k0 : (0 : Int) ≤ (k : Int) := by omega
      have k1 : (k : Int) < (n : Int) := by omega
      obtain ⟨x, hx⟩ : ∃ x, L[k]? = some x := ⟨_, List.getElem?_eq_getElem (by rw [← HN.out]; exact hlt)⟩
      have hB1 := HB.out.chg HR.out.1 (by simp)
      have x0 : wr.cell? ⟨B, k * 2, none⟩ = some (.int .i64 x.1) := (hB1.cell (k * 2)).trans (by rw [List.getElem?_toArray]; exact (rowC_at hx).1)
      have x1 : wr.cell? ⟨B, k * 2 + 1, none⟩ = some x.2.1 := (hB1.cell (k * 2 + 1)).trans (by rw [List.getElem?_toArray]; exact (rowC_at hx).2)
      obtain ⟨f, rs, cs, hv, hrun, hcall⟩ := HC.out k x hx HR.out.2
      obtain ⟨ex, vx, bx⟩ := x
      simp only at hv x0 x1 hcall
      obtain ⟨az, has⟩ : ∃ az, az = rs ++ cs := ⟨_, rfl⟩
      rw [← has] at hrun hcall
      subst hv
      have HX := Lib.hid hx
      have lB := hB1.lt
      have hstep := fun W (hW : Chg [] wr W) => hcall W (HR.out.1.then hW)
      clear hx hcall hB1
      have HAS := Lib.hid has
      clear has
      cases bx with
      | false =>
        have HZ := Lib.hid (firstE_at HX.out rfl HR.out.2)
        go_wp2_with (fail)
        rw [← HAS.out, hrun]
        refine (hstep _ ((Chg.refl _ _).alloc _)).mono ?_
        rintro e w1 ⟨rfl, hc1⟩
        have hB1 := (Blk.new wr 101 #[.int .i64 ex, .func (.func f) rs cs]).chg hc1 (by simp)
        have lb1 := hB1.lt
        have z0 := hB1.cell 0
        have HC1 := Lib.hid hc1
        clear hc1 hB1
        go_wp2
        go_ret
        exact ⟨by rw [HZ.out]; rfl, (HR.out.1.alloc _).then HC1.out⟩
      | true =>
        have HZ := Lib.hid (show ∀ (j : Nat) (y : Int × Value × Bool), j < k + 1 → L[j]? = some y → y.2.2 = true from fun j y hj hy => by
          by_cases e : j = k
          · subst e
            rw [HX.out] at hy
            cases hy
            rfl
          · exact HR.out.2 j y (by omega) hy)
        go_wp2_with (fail)
        rw [← HAS.out, hrun]
        refine (hstep _ ((Chg.refl _ _).alloc _)).mono ?_
        rintro e w1 ⟨rfl, hc1⟩
        have HC1 := Lib.hid hc1
        clear hc1
        go_wp2
        go_roundg (n - k - 1)
        case measure => omega
        case rel => exact ⟨k + 1, by omega, by go_num, Lib.hid ⟨(HR.out.1.alloc _).then HC1.out, HZ.out⟩⟩
    · have hkn : k = n := by omega
      have HZ := Lib.hid (firstE_none (L := L) (fun j y hj hy => HR.out.2 j y (by have := HN.out; omega) hy))
      subst hkn
      go_wp2
      go_ret
      exact ⟨by rw [HZ.out]; rfl, HR.out.1⟩
end Go.Proofs
end
section
namespace Go.Proofs
open Go.RowKit
set_option linter.unusedVariables false
set_option linter.unusedSimpArgs false

/-! ### What is to be so, and the closures that tell it -/
/-- A want: its error, and a function value that tells b (where P). -/
def Wanted (w w' : World) (e : Ending) (code : Int) (P : Prop) (b : Bool) : Prop := ∃ F, e = .returned (.agg #[.int .i64 code, F]) ∧ Chg [] w w' ∧ (P → Clo w' F b)
theorem within_any (i n : Int) (w : World) : Calls Try.prog 81 #[.int .i64 i, .int .i64 n] w fun e w' => e = .returned (.bool (decide (0 ≤ i ∧ i < n))) ∧ w' = w := by
  by_cases h0 : 0 ≤ i
  · by_cases h1 : i < n
    · have d0 : decide (0 ≤ i) = true := decide_eq_true h0
      have d1 : decide (i < n) = true := decide_eq_true h1
      rw [show decide (0 ≤ i ∧ i < n) = true from decide_eq_true ⟨h0, h1⟩]
      go_enter Try.func81, Try.ntmps81
      go_wp2
      go_ret
      exact ⟨rfl, rfl⟩
    · have d0 : decide (0 ≤ i) = true := decide_eq_true h0
      have d1 : decide (i < n) = false := decide_eq_false h1
      rw [show decide (0 ≤ i ∧ i < n) = false from decide_eq_false (fun h => h1 h.2)]
      go_enter Try.func81, Try.ntmps81
      go_wp2
      go_ret
      exact ⟨rfl, rfl⟩
  · have d0 : decide (0 ≤ i) = false := decide_eq_false h0
    rw [show decide (0 ≤ i ∧ i < n) = false from decide_eq_false (fun h => h0 h.1)]
    go_enter Try.func81, Try.ntmps81
    go_wp2
    go_ret
    exact ⟨rfl, rfl⟩
theorem Blk.tell {w : World} {b : Nat} {t : TypeId} {cs : Array Value} (h : Blk w b t cs) : ∀ W, Chg [] w W → (∀ o, W.cell? ⟨b, o, none⟩ = cs[o]?) ∧ b < W.heap.size := fun W hc => ⟨(h.chg hc (by simp)).cell, (h.chg hc (by simp)).lt⟩
theorem run_79 (a : Value) (W : World) : (callFunc 79 (#[] ++ #[a])).run Try.prog W = .ok (.enter 79 (#[] ++ #[a])) W := by kernel_rfl
theorem run_80 (a b : Value) (W : World) : (callFunc 80 (#[] ++ #[a, b])).run Try.prog W = .ok (.enter 80 (#[] ++ #[a, b])) W := by kernel_rfl
theorem run_82 (a b : Value) (W : World) : (callFunc 82 (#[] ++ #[a, b])).run Try.prog W = .ok (.enter 82 (#[] ++ #[a, b])) W := by kernel_rfl
theorem run_90 (a b : Value) (W : World) : (callFunc 90 (#[] ++ #[a, b])).run Try.prog W = .ok (.enter 90 (#[] ++ #[a, b])) W := by kernel_rfl
theorem run_91 (a : Value) (W : World) : (callFunc 91 (#[] ++ #[a])).run Try.prog W = .ok (.enter 91 (#[] ++ #[a])) W := by kernel_rfl
theorem run_92 (a : Value) (W : World) : (callFunc 92 (#[] ++ #[a])).run Try.prog W = .ok (.enter 92 (#[] ++ #[a])) W := by kernel_rfl
theorem run_94 (a b c : Value) (W : World) : (callFunc 94 (#[] ++ #[a, b, c])).run Try.prog W = .ok (.enter 94 (#[] ++ #[a, b, c])) W := by kernel_rfl
section
variable {w : World} {a : Nat} {S : List Nat} {s : Sp}
/-- A receiver of which one knows whether it is none. -/
def Non (w : World) (v : Value) (b : Bool) : Prop := ∀ W, Chg [] w W → Calls Try.prog 51 #[v] W fun e w' => W = w' ∧ e = .returned (.bool b)
theorem SpAt.non (h : SpAt w a S s) : Non w (ptr a) false := fun W hW => none_is (h.quiet hW)
theorem NoS.non {v : Value} (h : NoS w v) : Non w v true := fun W hW => none_no (h.quiet hW)
theorem clo_there {pt : Option Addr} {x : Bool} (h : Non w (.pointer pt) x) {bv : Nat} (hb : Blk w bv 23 #[.pointer pt]) : Clo w (.func (.func 79) #[] #[ptr bv]) (!x) := by
  refine ⟨79, _, _, rfl, run_79 _, fun W hW => ?_⟩
  have c0 := (hb.quiet hW).cell 0
  have lb := (hb.quiet hW).lt
  simp only [List.getElem?_toArray, List.getElem?_cons_zero] at c0
  have HN := h W hW
  show Calls Try.prog 79 #[ptr bv] W _
  clear h hb
  go_enter Try.func79, Try.ntmps79
  go_wp2_with (go_at_call 51; refine HN.mono ?_; rintro e w' ⟨rfl, rfl⟩)
  go_ret
  exact ⟨rfl, Chg.refl _ _⟩
theorem there_any {pt : Option Addr} {x : Bool} (h : Non w (.pointer pt) x) : Calls Try.prog 55 #[.pointer pt] w fun e w' => Wanted w w' e 1 True (!x) := by
  have HN := Lib.hid h
  clear h
  go_enter Try.func55, Try.ntmps55
  go_wp2
  refine bodyPost_ret (v := .agg #[.int .i64 1, .func (.func 79) #[] #[ptr w.heap.size]]) ?_ rfl ⟨_, rfl, ?_, fun _ => ?_⟩
  · simp [results, Try.results55, go_sem]
  · repeat' (first | with_reducible exact Chg.refl _ _ | with_reducible apply Chg.alloc | with_reducible apply Chg.setCell | (with_reducible refine Or.inr ?_; dsimp only; omega))
  · exact clo_there (fun W hW => HN.out W (Chg.then ((Chg.refl _ _).alloc _ |>.alloc _) hW)) ((Blk.new w 23 #[.pointer pt]).alloc _)
set_option maxHeartbeats 1600000 in
theorem clo_has (h : SpAt w a S s) {p : Pt} {bs bp : Nat} (hb : Blk w bs 23 #[ptr a]) (hp : Blk w bp 94 #[.int .i64 p.g, .int .i64 p.s]) : Clo w (.func (.func 80) #[] #[ptr bp, ptr bs]) (s.slot p) := by
  refine ⟨80, _, _, rfl, run_80 _ _, fun W hW => ?_⟩
  show Calls Try.prog 80 #[ptr bp, ptr bs] W _
  obtain ⟨c, hR, hS, hWF⟩ := h
  obtain ⟨ht, St, bm, A, cH, _, hh, _, _⟩ := hR.head
  obtain ⟨c0, c1, c2, c3, c4, la, _, hT, hM⟩ := hh W hW
  have k0 := (hb.quiet hW).cell 0
  have k1 := (hp.quiet hW).cell 0
  have k2 := (hp.quiet hW).cell 1
  have lb := (hb.quiet hW).lt
  have lp := (hp.quiet hW).lt
  simp only [List.getElem?_toArray, List.getElem?_cons_zero, List.getElem?_cons_succ] at k0 k1 k2
  have HA := within_any p.g s.gs
  have HB := within_any p.s s.slots
  have hres : s.slot p = (decide (0 ≤ p.g ∧ p.g < s.gs) && decide (0 ≤ p.s ∧ p.s < s.slots)) := by
    unfold Sp.slot
    rw [← Bool.decide_and]
    congr 1
    simp only [and_assoc]
  rw [hres]
  clear hres hh hT hM hR hS hWF hb hp c2 c3 c4
  obtain ⟨x, hx⟩ : ∃ x, x = decide (0 ≤ p.g ∧ p.g < s.gs) := ⟨_, rfl⟩
  obtain ⟨y, hy⟩ : ∃ y, y = decide (0 ≤ p.s ∧ p.s < s.slots) := ⟨_, rfl⟩
  rw [← hx] at HA ⊢
  rw [← hy] at HB ⊢
  clear hx hy
  cases x with
  | false =>
    go_enter Try.func80, Try.ntmps80
    go_wp2
    go_quiet ((go_at_call 81; exact Calls.quiet_of_same (HA _)))
    go_wp2
    go_ret
    exact ⟨rfl, (Chg.refl _ _).drewN _⟩
  | true =>
    go_enter Try.func80, Try.ntmps80
    go_wp2
    go_quiet ((first | (go_at_call 81; with_reducible exact Calls.quiet_of_same (HA _)) | (go_at_call 81; exact Calls.quiet_of_same (HB _))))
    go_wp2
    go_ret
    exact ⟨rfl, (Chg.refl _ _).drewN _⟩
/-- May a capability be? -/
def mayB (c : Cp) : Bool := decide (1 ≤ c.kind ∧ c.kind ≤ 3 ∧ 0 ≤ c.idx ∧ c.gen ≠ 0)
set_option maxHeartbeats 1600000 in
theorem may_any (c : Cp) (w : World) : Calls Try.prog 37 #[c.val] w fun e w' => e = .returned (.bool (mayB c)) ∧ Chg [] w w' := by
  obtain ⟨k, i, g, r⟩ := c
  have fin : ∀ (x : Bool), mayB ⟨k, i, g, r⟩ = x → ∀ W, Chg [] w W → (Ending.returned (.bool x) = .returned (.bool (mayB ⟨k, i, g, r⟩)) ∧ Chg [] w W) := fun x h W hW => ⟨by rw [h], hW⟩
  have FIN := Lib.hid fin
  clear fin
  by_cases h1 : 1 ≤ k
  · have d1 : decide (1 ≤ k) = true := decide_eq_true h1
    by_cases h2 : k ≤ 3
    · have d2 : decide (k ≤ 3) = true := decide_eq_true h2
      by_cases h3 : 0 ≤ i
      · have d3 : decide (0 ≤ i) = true := decide_eq_true h3
        by_cases h4 : g = 0
        · have d4 : (g != 0) = false := by simp [h4]
          have HZ := Lib.hid (show mayB ⟨k, i, g, r⟩ = false from decide_eq_false (fun h => h.2.2.2 h4))
          clear h4
          go_enter Try.func37, Try.ntmps37
          go_wp2
          go_ret
          exact FIN.out _ HZ.out _ ((Chg.refl _ _).alloc _)
        · have d4 : (g != 0) = true := by simp [h4]
          have HZ := Lib.hid (show mayB ⟨k, i, g, r⟩ = true from decide_eq_true ⟨h1, h2, h3, h4⟩)
          go_enter Try.func37, Try.ntmps37
          go_wp2
          go_ret
          exact FIN.out _ HZ.out _ ((Chg.refl _ _).alloc _)
      · have d3 : decide (0 ≤ i) = false := decide_eq_false h3
        have HZ := Lib.hid (show mayB ⟨k, i, g, r⟩ = false from decide_eq_false (fun h => h3 h.2.2.1))
        go_enter Try.func37, Try.ntmps37
        go_wp2
        go_ret
        exact FIN.out _ HZ.out _ ((Chg.refl _ _).alloc _)
    · have d2 : decide (k ≤ 3) = false := decide_eq_false h2
      have HZ := Lib.hid (show mayB ⟨k, i, g, r⟩ = false from decide_eq_false (fun h => h2 h.2.1))
      go_enter Try.func37, Try.ntmps37
      go_wp2
      go_ret
      exact FIN.out _ HZ.out _ ((Chg.refl _ _).alloc _)
  · have d1 : decide (1 ≤ k) = false := decide_eq_false h1
    have HZ := Lib.hid (show mayB ⟨k, i, g, r⟩ = false from decide_eq_false (fun h => h1 h.1))
    go_enter Try.func37, Try.ntmps37
    go_wp2
    go_ret
    exact FIN.out _ HZ.out _ ((Chg.refl _ _).alloc _)
theorem clo_filled (h : SpAt w a S s) {p : Pt} (hk : p.ok) {bs bp : Nat} (hb : Blk w bs 23 #[ptr a]) (hp : Blk w bp 94 #[.int .i64 p.g, .int .i64 p.s]) : Clo w (.func (.func 82) #[] #[ptr bs, ptr bp]) (s.f p).isSome := by
  refine ⟨82, _, _, rfl, run_82 _ _, fun W hW => ?_⟩
  show Calls Try.prog 82 #[ptr bs, ptr bp] W _
  have HN := node_any (h.quiet hW) hk
  have k0 := (hb.quiet hW).cell 0
  have k1 := (hp.quiet hW).cell 0
  have k2 := (hp.quiet hW).cell 1
  have lb := (hb.quiet hW).lt
  have lp := (hp.quiet hW).lt
  simp only [List.getElem?_toArray, List.getElem?_cons_zero, List.getElem?_cons_succ] at k0 k1 k2
  obtain ⟨n, hn⟩ : ∃ n, n = (s.f p).getD 0 := ⟨_, rfl⟩
  obtain ⟨b, hb'⟩ : ∃ b, b = (s.f p).isSome := ⟨_, rfl⟩
  rw [← hn, ← hb'] at HN
  rw [← hb']
  clear h hn hb' hb hp
  go_enter Try.func82, Try.ntmps82
  go_wp2_with (go_at_call 52; refine HN.mono ?_; rintro e w' ⟨rfl, hc⟩; have HC := Lib.hid hc; clear hc)
  go_ret
  exact ⟨rfl, HC.out⟩
theorem clo_empty (h : SpAt w a S s) {p : Pt} (hk : p.ok) {bs bp : Nat} (hb : Blk w bs 23 #[ptr a]) (hp : Blk w bp 94 #[.int .i64 p.g, .int .i64 p.s]) : Clo w (.func (.func 90) #[] #[ptr bs, ptr bp]) (!(s.f p).isSome) := by
  refine ⟨90, _, _, rfl, run_90 _ _, fun W hW => ?_⟩
  show Calls Try.prog 90 #[ptr bs, ptr bp] W _
  have HN := node_any (h.quiet hW) hk
  have k0 := (hb.quiet hW).cell 0
  have k1 := (hp.quiet hW).cell 0
  have k2 := (hp.quiet hW).cell 1
  have lb := (hb.quiet hW).lt
  have lp := (hp.quiet hW).lt
  simp only [List.getElem?_toArray, List.getElem?_cons_zero, List.getElem?_cons_succ] at k0 k1 k2
  obtain ⟨n, hn⟩ : ∃ n, n = (s.f p).getD 0 := ⟨_, rfl⟩
  obtain ⟨b, hb'⟩ : ∃ b, b = (s.f p).isSome := ⟨_, rfl⟩
  rw [← hn, ← hb'] at HN
  rw [← hb']
  clear h hn hb' hb hp
  go_enter Try.func90, Try.ntmps90
  go_wp2_with (go_at_call 52; refine HN.mono ?_; rintro e w' ⟨rfl, hc⟩; have HC := Lib.hid hc; clear hc)
  go_ret
  exact ⟨rfl, HC.out⟩
theorem clo_may {c : Cp} {bc : Nat} (hb : Blk w bc 39 c.arr) : Clo w (.func (.func 91) #[] #[ptr bc]) (mayB c) := by
  refine ⟨91, _, _, rfl, run_91 _, fun W hW => ?_⟩
  show Calls Try.prog 91 #[ptr bc] W _
  have HN := may_any c W
  have k0 := (hb.quiet hW).cell 0
  have k1 := (hb.quiet hW).cell 1
  have k2 := (hb.quiet hW).cell 2
  have k3 := (hb.quiet hW).cell 3
  have lb := (hb.quiet hW).lt
  simp only [List.getElem?_toArray, List.getElem?_cons_zero, List.getElem?_cons_succ] at k0 k1 k2 k3
  obtain ⟨b, hb'⟩ : ∃ b, b = mayB c := ⟨_, rfl⟩
  rw [← hb'] at HN ⊢
  clear hb' hb
  go_enter Try.func91, Try.ntmps91
  go_wp2_with (go_at_call 37; refine HN.mono ?_; rintro e w' ⟨rfl, hc⟩; have HC := Lib.hid hc; clear hc)
  go_ret
  exact ⟨rfl, HC.out⟩
theorem clo_room (h : SpAt w a S s) {bs : Nat} (hb : Blk w bs 23 #[ptr a]) : Clo w (.func (.func 92) #[] #[ptr bs]) (decide (s.t.len < s.t.size)) := by
  refine ⟨92, _, _, rfl, run_92 _, fun W hW => ?_⟩
  show Calls Try.prog 92 #[ptr bs] W _
  have HN := room_any (h.quiet hW)
  have k0 := (hb.quiet hW).cell 0
  have lb := (hb.quiet hW).lt
  simp only [List.getElem?_toArray, List.getElem?_cons_zero, List.getElem?_cons_succ] at k0
  obtain ⟨n, hn⟩ : ∃ n, n = s.t.size - s.t.len := ⟨_, rfl⟩
  rw [← hn] at HN
  by_cases h0 : s.t.len < s.t.size
  · have d0 : decide ((0 : Int) < (n : Int)) = true := decide_eq_true (by omega)
    have hnp : 0 < n := by omega
    rw [decide_eq_true h0]
    clear h hn hb h0
    go_enter Try.func92, Try.ntmps92
    go_wp2_with (go_at_call 36; refine HN.mono ?_; rintro e w' ⟨rfl, hc⟩; have HC := Lib.hid hc; clear hc)
    go_ret
    exact ⟨by first | rfl | (rw [← d0]; rfl) | simpa using hnp, HC.out⟩
  · obtain rfl : n = 0 := by omega
    rw [decide_eq_false h0]
    clear h hn hb h0
    go_enter Try.func92, Try.ntmps92
    go_wp2_with (go_at_call 36; refine HN.mono ?_; rintro e w' ⟨rfl, hc⟩; have HC := Lib.hid hc; clear hc)
    go_ret
    exact ⟨rfl, HC.out⟩
set_option maxHeartbeats 1600000 in
theorem clo_among (h : SpAt w a S s) {p : Pt} (hk : p.ok) {n r : Nat} (hf : s.f p = some n) (hr : r < 256) {bs bp br : Nat} (hb : Blk w bs 23 #[ptr a]) (hp : Blk w bp 94 #[.int .i64 p.g, .int .i64 p.s]) (hbr : Blk w br 37 #[.int .u8 (r : Nat)]) :
    Clo w (.func (.func 94) #[] #[ptr bs, ptr bp, ptr br]) (amongP r (s.hd n).cap.rts) := by
  refine ⟨94, _, _, rfl, run_94 _ _ _, fun W hW => ?_⟩
  show Calls Try.prog 94 #[ptr bs, ptr bp, ptr br] W _
  obtain ⟨c, hR, hS, hWF⟩ := h
  have hth := (hWF.back p n hf).1
  have hnlt := hS.wf.lt n hth
  have hget := hWF.get hnlt
  have hrt := (hWF.at_ n hth).2.2.2.2.2.2
  have hlen := hWF.len
  obtain ⟨ht, St, bm, A, cH, hcH, hh, hrow, _⟩ := hR.head
  obtain ⟨c0, c1, c2, c3, c4, la, _, hT, hM⟩ := hh W hW
  obtain ⟨g, rfl, _, _, _, _, hg⟩ := hrow n _ hget
  obtain ⟨lg, _, _, _, _, _, _, g5⟩ := hg W hW
  have hlk := fun q => (hM.quiet ((Chg.refl _ _).drewN q)).look hk
  rw [hf] at hlk
  simp only [Option.getD_some] at hlk
  have k0 := (hb.quiet hW).cell 0
  have k1 := (hp.quiet hW).cell 0
  have k2 := (hp.quiet hW).cell 1
  have k3 := (hbr.quiet hW).cell 0
  have lb := (hb.quiet hW).lt
  have lp := (hp.quiet hW).lt
  have lr := (hbr.quiet hW).lt
  simp only [List.getElem?_toArray, List.getElem?_cons_zero, List.getElem?_cons_succ] at k0 k1 k2 k3
  have HA := narrow_any (s.hd n).cap.rts r hrt hr
  obtain ⟨x, hx⟩ : ∃ x, x = (s.hd n).cap.rts := ⟨_, rfl⟩
  obtain ⟨m, hm⟩ : ∃ m, m = s.H.length := ⟨_, rfl⟩
  rw [← hx] at HA g5 ⊢
  rw [← hm] at c4
  have i0 : (0 : Int) ≤ (n : Int) := by omega
  have i1 : (n : Int) < (m : Int) := by omega
  clear hh hT hM hR hS hWF hb hp hbr c0 c1 c2 hrow hg hx hm hf hget hth hnlt hrt hlen hcH
  go_enter Try.func94, Try.ntmps94
  go_wp2
  go_quiet ((go_at_call 95; exact Calls.quiet_of_same (HA _)))
  go_wp2
  go_ret
  exact ⟨rfl, (Chg.refl _ _).drewN _⟩
end
end Go.Proofs
end
section
namespace Go.Proofs
open Go.RowKit
set_option linter.unusedVariables false
set_option linter.unusedSimpArgs false

/-! ### The makers of wants -/
section
variable {w : World} {a : Nat} {S : List Nat} {s : Sp}
theorem has_made (pt : Option Addr) (p : Pt) (w : World) : Calls Try.prog 56 #[.pointer pt, p.val] w fun e w' => ∃ bs bp, e = .returned (.agg #[.int .i64 9, .func (.func 80) #[] #[ptr bp, ptr bs]]) ∧ Chg [] w w' ∧ Blk w' bs 23 #[.pointer pt] ∧ Blk w' bp 94 #[.int .i64 p.g, .int .i64 p.s] := by
  go_enter Try.func56, Try.ntmps56
  go_wp2
  refine bodyPost_ret (v := .agg #[.int .i64 9, .func (.func 80) #[] #[ptr (w.heap.size + 1), ptr (w.heap.size)]]) ?_ rfl ⟨w.heap.size, w.heap.size + 1, rfl, ?_, ?_, ?_⟩
  · simp [results, Try.results56, go_sem]
  · repeat' (first | with_reducible exact Chg.refl _ _ | with_reducible apply Chg.alloc | with_reducible apply Chg.setCell | (with_reducible refine Or.inr ?_; dsimp only; omega))
  · exact (by simpa using (((Blk.new (w) 23 _).alloc _).alloc _))
  · exact (by simpa using ((Blk.new ((w).alloc (.cells #[.pointer pt] 23)) 94 _).alloc _))
theorem filled_made (pt : Option Addr) (p : Pt) (w : World) : Calls Try.prog 57 #[.pointer pt, p.val] w fun e w' => ∃ bs bp, e = .returned (.agg #[.int .i64 10, .func (.func 82) #[] #[ptr bs, ptr bp]]) ∧ Chg [] w w' ∧ Blk w' bs 23 #[.pointer pt] ∧ Blk w' bp 94 #[.int .i64 p.g, .int .i64 p.s] := by
  go_enter Try.func57, Try.ntmps57
  go_wp2
  refine bodyPost_ret (v := .agg #[.int .i64 10, .func (.func 82) #[] #[ptr (w.heap.size), ptr (w.heap.size + 1)]]) ?_ rfl ⟨w.heap.size, w.heap.size + 1, rfl, ?_, ?_, ?_⟩
  · simp [results, Try.results57, go_sem]
  · repeat' (first | with_reducible exact Chg.refl _ _ | with_reducible apply Chg.alloc | with_reducible apply Chg.setCell | (with_reducible refine Or.inr ?_; dsimp only; omega))
  · exact (by simpa using (((Blk.new (w) 23 _).alloc _).alloc _))
  · exact (by simpa using ((Blk.new ((w).alloc (.cells #[.pointer pt] 23)) 94 _).alloc _))
theorem empty_made (pt : Option Addr) (p : Pt) (w : World) : Calls Try.prog 66 #[.pointer pt, p.val] w fun e w' => ∃ bs bp, e = .returned (.agg #[.int .i64 14, .func (.func 90) #[] #[ptr bs, ptr bp]]) ∧ Chg [] w w' ∧ Blk w' bs 23 #[.pointer pt] ∧ Blk w' bp 94 #[.int .i64 p.g, .int .i64 p.s] := by
  go_enter Try.func66, Try.ntmps66
  go_wp2
  refine bodyPost_ret (v := .agg #[.int .i64 14, .func (.func 90) #[] #[ptr (w.heap.size), ptr (w.heap.size + 1)]]) ?_ rfl ⟨w.heap.size, w.heap.size + 1, rfl, ?_, ?_, ?_⟩
  · simp [results, Try.results66, go_sem]
  · repeat' (first | with_reducible exact Chg.refl _ _ | with_reducible apply Chg.alloc | with_reducible apply Chg.setCell | (with_reducible refine Or.inr ?_; dsimp only; omega))
  · exact (by simpa using (((Blk.new (w) 23 _).alloc _).alloc _))
  · exact (by simpa using ((Blk.new ((w).alloc (.cells #[.pointer pt] 23)) 94 _).alloc _))
theorem may_made (c : Cp) (w : World) : Calls Try.prog 68 #[c.val] w fun e w' => ∃ bc, e = .returned (.agg #[.int .i64 2, .func (.func 91) #[] #[ptr bc]]) ∧ Chg [] w w' ∧ Blk w' bc 39 c.arr := by
  go_enter Try.func68, Try.ntmps68
  go_wp2
  refine bodyPost_ret (v := .agg #[.int .i64 2, .func (.func 91) #[] #[ptr (w.heap.size)]]) ?_ rfl ⟨w.heap.size, rfl, ?_, ?_⟩
  · simp [results, Try.results68, go_sem]
  · repeat' (first | with_reducible exact Chg.refl _ _ | with_reducible apply Chg.alloc | with_reducible apply Chg.setCell | (with_reducible refine Or.inr ?_; dsimp only; omega))
  · exact (by simpa using ((Blk.new (w) 39 _).alloc _))
theorem room_made (pt : Option Addr) (w : World) : Calls Try.prog 69 #[.pointer pt] w fun e w' => ∃ bs, e = .returned (.agg #[.int .i64 3, .func (.func 92) #[] #[ptr bs]]) ∧ Chg [] w w' ∧ Blk w' bs 23 #[.pointer pt] := by
  go_enter Try.func69, Try.ntmps69
  go_wp2
  refine bodyPost_ret (v := .agg #[.int .i64 3, .func (.func 92) #[] #[ptr (w.heap.size)]]) ?_ rfl ⟨w.heap.size, rfl, ?_, ?_⟩
  · simp [results, Try.results69, go_sem]
  · repeat' (first | with_reducible exact Chg.refl _ _ | with_reducible apply Chg.alloc | with_reducible apply Chg.setCell | (with_reducible refine Or.inr ?_; dsimp only; omega))
  · exact (by simpa using ((Blk.new (w) 23 _).alloc _))
theorem among_made (pt : Option Addr) (p : Pt) (r : Nat) (w : World) : Calls Try.prog 71 #[.pointer pt, p.val, .int .u8 (r : Nat)] w fun e w' => ∃ bs bp br, e = .returned (.agg #[.int .i64 13, .func (.func 94) #[] #[ptr bs, ptr bp, ptr br]]) ∧ Chg [] w w' ∧ Blk w' bs 23 #[.pointer pt] ∧ Blk w' bp 94 #[.int .i64 p.g, .int .i64 p.s] ∧ Blk w' br 37 #[.int .u8 (r : Nat)] := by
  go_enter Try.func71, Try.ntmps71
  go_wp2
  refine bodyPost_ret (v := .agg #[.int .i64 13, .func (.func 94) #[] #[ptr (w.heap.size), ptr (w.heap.size + 1), ptr (w.heap.size + 1 + 1)]]) ?_ rfl ⟨w.heap.size, w.heap.size + 1, w.heap.size + 1 + 1, rfl, ?_, ?_, ?_, ?_⟩
  · simp [results, Try.results71, go_sem]
  · repeat' (first | with_reducible exact Chg.refl _ _ | with_reducible apply Chg.alloc | with_reducible apply Chg.setCell | (with_reducible refine Or.inr ?_; dsimp only; omega))
  · exact (by simpa using ((((Blk.new (w) 23 _).alloc _).alloc _).alloc _))
  · exact (by simpa using (((Blk.new ((w).alloc (.cells #[.pointer pt] 23)) 94 _).alloc _).alloc _))
  · exact (by simpa using ((Blk.new (((w).alloc (.cells #[.pointer pt] 23)).alloc (.cells #[.int .i64 p.g, .int .i64 p.s] 94)) 37 _).alloc _))
end
end Go.Proofs
end
section
namespace Go.Proofs
open Go.RowKit
set_option linter.unusedVariables false
set_option linter.unusedSimpArgs false

/-! ### Which error applies first -/
def firstB : List (Int × Bool) → Int
  | [] => 0
  | x :: r => if x.2 then firstB r else x.1
theorem firstE_B : ∀ L : Rfs3, firstE L = firstB (L.map fun x => (x.1, x.2.2))
  | [] => rfl
  | x :: r => by
    show (if x.2.2 then firstE r else x.1) = if x.2.2 then firstB _ else x.1
    rw [firstE_B r]
/-- A row of wants, each told where all ahead of it are so. -/
def CloRow (w : World) : Rfs3 → Prop
  | [] => True
  | x :: r => Clo w x.2.1 x.2.2 ∧ (x.2.2 = true → CloRow w r)
theorem CloRow.at_ {w : World} : ∀ {L : Rfs3}, CloRow w L → ∀ (k : Nat) (x : Int × Value × Bool), L[k]? = some x → (∀ (j : Nat) (y : Int × Value × Bool), j < k → L[j]? = some y → y.2.2 = true) → Clo w x.2.1 x.2.2
  | [], _, k, x, hx, _ => by simp at hx
  | a :: L, h, 0, x, hx, _ => by simp at hx; subst hx; exact h.1
  | a :: L, h, k + 1, x, hx, hp => CloRow.at_ (h.2 (hp 0 a (by omega) (by simp))) k x (by simpa using hx) (fun j y hj hy => hp (j + 1) y (by omega) (by simpa using hy))
theorem CloRow.quiet {w w' : World} (hc : Chg [] w w') : ∀ {L : Rfs3}, CloRow w L → CloRow w' L
  | [], _ => trivial
  | a :: L, h => ⟨h.1.quiet hc, fun e => CloRow.quiet hc (h.2 e)⟩
theorem refuse {w : World} (L : Rfs3) {n : Nat} {cs : Array Value} (hn : L.length = n) (hl : n ≤ 9) (hcs : (rowC L).toArray = cs) (hC : CloRow w L) :
    Calls Try.prog 54 #[.slice (some ⟨w.heap.size, 0, none⟩) n n] (w.alloc (.cells cs 101)) fun e w' => e = .returned (.int .i64 (firstE L)) ∧ Chg [] w w' := by
  subst hcs
  subst hn
  exact (refused_any (Blk.new w 101 _) rfl hl (CloRow.quiet ((Chg.refl _ _).alloc _) hC).at_).mono fun e w' h => ⟨h.1, ((Chg.refl _ _).alloc _).then h.2⟩
section
variable {w : World} {a : Nat} {S : List Nat} {s : Sp}
theorem whas_any (h : SpAt w a S s) (p : Pt) : Calls Try.prog 56 #[ptr a, p.val] w fun e w' => Wanted w w' e 9 True (s.slot p) :=
  (has_made _ p w).mono fun e w' ⟨bs, bp, h1, hc, h2, h3⟩ => ⟨_, h1, hc, fun _ => clo_has (h.quiet hc) h2 h3⟩
theorem wfilled_any (h : SpAt w a S s) (p : Pt) : Calls Try.prog 57 #[ptr a, p.val] w fun e w' => Wanted w w' e 10 (s.slot p = true) (s.f p).isSome :=
  (filled_made _ p w).mono fun e w' ⟨bs, bp, h1, hc, h2, h3⟩ => ⟨_, h1, hc, fun hs => clo_filled (h.quiet hc) (Sp.slot_ok h.wf.gs.2 h.wf.slots.2 hs) h2 h3⟩
theorem wempty_any (h : SpAt w a S s) (p : Pt) : Calls Try.prog 66 #[ptr a, p.val] w fun e w' => Wanted w w' e 14 (s.slot p = true) (!(s.f p).isSome) :=
  (empty_made _ p w).mono fun e w' ⟨bs, bp, h1, hc, h2, h3⟩ => ⟨_, h1, hc, fun hs => clo_empty (h.quiet hc) (Sp.slot_ok h.wf.gs.2 h.wf.slots.2 hs) h2 h3⟩
theorem wmay_any (c : Cp) (w : World) : Calls Try.prog 68 #[c.val] w fun e w' => Wanted w w' e 2 True (mayB c) :=
  (may_made c w).mono fun e w' ⟨bc, h1, hc, h2⟩ => ⟨_, h1, hc, fun _ => clo_may h2⟩
theorem wroom_any (h : SpAt w a S s) : Calls Try.prog 69 #[ptr a] w fun e w' => Wanted w w' e 3 True (decide (s.t.len < s.t.size)) :=
  (room_made _ w).mono fun e w' ⟨bs, h1, hc, h2⟩ => ⟨_, h1, hc, fun _ => clo_room (h.quiet hc) h2⟩
/-- Are the rights r among those of what is at p? -/
def Sp.amongB (s : Sp) (p : Pt) (r : Nat) : Bool := match s.f p with | some n => amongP r (s.hd n).cap.rts | none => true
theorem wamong_any (h : SpAt w a S s) (p : Pt) {r : Nat} (hr : r < 256) : Calls Try.prog 71 #[ptr a, p.val, .int .u8 (r : Nat)] w fun e w' => Wanted w w' e 13 (s.slot p = true ∧ (s.f p).isSome = true) (s.amongB p r) :=
  (among_made _ p r w).mono fun e w' ⟨bs, bp, br, h1, hc, h2, h3, h4⟩ => ⟨_, h1, hc, fun hs => by
    obtain ⟨n, hn⟩ := Option.isSome_iff_exists.1 hs.2
    unfold Sp.amongB
    rw [hn]
    exact clo_among (h.quiet hc) (Sp.slot_ok h.wf.gs.2 h.wf.slots.2 hs.1) hn hr h2 h3 h4⟩
theorem Wanted.of_made {w w' : World} {e : Ending} {code : Int} {F : Value} (h1 : e = .returned (.agg #[.int .i64 code, F])) (hc : Chg [] w w') : Wanted w w' e code False true := ⟨F, h1, hc, fun h => h.elim⟩
theorem whas_no (pt : Option Addr) (p : Pt) (w : World) : Calls Try.prog 56 #[.pointer pt, p.val] w fun e w' => Wanted w w' e 9 False true :=
  (has_made _ p w).mono fun e w' ⟨bs, bp, h1, hc, _⟩ => .of_made h1 hc
theorem wfilled_no (pt : Option Addr) (p : Pt) (w : World) : Calls Try.prog 57 #[.pointer pt, p.val] w fun e w' => Wanted w w' e 10 False true :=
  (filled_made _ p w).mono fun e w' ⟨bs, bp, h1, hc, _⟩ => .of_made h1 hc
theorem wempty_no (pt : Option Addr) (p : Pt) (w : World) : Calls Try.prog 66 #[.pointer pt, p.val] w fun e w' => Wanted w w' e 14 False true :=
  (empty_made _ p w).mono fun e w' ⟨bs, bp, h1, hc, _⟩ => .of_made h1 hc
theorem wroom_no (pt : Option Addr) (w : World) : Calls Try.prog 69 #[.pointer pt] w fun e w' => Wanted w w' e 3 False true :=
  (room_made _ w).mono fun e w' ⟨bs, h1, hc, _⟩ => .of_made h1 hc
theorem wamong_no (pt : Option Addr) (p : Pt) (r : Nat) (w : World) : Calls Try.prog 71 #[.pointer pt, p.val, .int .u8 (r : Nat)] w fun e w' => Wanted w w' e 13 False true :=
  (among_made _ p r w).mono fun e w' ⟨bs, bp, br, h1, hc, _⟩ => .of_made h1 hc

/-- Why a slot is not free. -/
def Sp.freeE (s : Sp) (p : Pt) : Int := firstB [(9, s.slot p), (14, !(s.f p).isSome)]
set_option maxHeartbeats 3200000 in
set_option maxRecDepth 100000 in
theorem free_is (h : SpAt w a S s) (p : Pt) : Calls Try.prog 32 #[ptr a, .int .i64 p.g, .int .i64 p.s] w fun e w' => e = .returned (.int .i64 (s.freeE p)) ∧ Chg [] w w' := by
  have H1 := Lib.hid (fun W (hc : Chg [] w W) => there_any (h.quiet hc).non)
  have H2 := Lib.hid (fun W (hc : Chg [] w W) => whas_any (h.quiet hc) p)
  have H3 := Lib.hid (fun W (hc : Chg [] w W) => wempty_any (h.quiet hc) p)
  have hk : ∀ W, Chg [] (w.alloc (.cells #[.int .i64 p.g, .int .i64 p.s] 94)) W → W.cell? ⟨w.heap.size, 0, none⟩ = some (.int .i64 p.g) ∧ W.cell? ⟨w.heap.size, 1, none⟩ = some (.int .i64 p.s) := fun W hc =>
    ⟨((Blk.new w 94 #[.int .i64 p.g, .int .i64 p.s]).quiet hc).cell 0, ((Blk.new w 94 #[.int .i64 p.g, .int .i64 p.s]).quiet hc).cell 1⟩
  have HK := Lib.hid hk
  obtain ⟨z, hz⟩ : ∃ z, z = s.freeE p := ⟨_, rfl⟩
  have HZ := Lib.hid hz
  rw [← hz]
  clear h hk hz
  go_enter Try.func32, Try.ntmps32
  go_wp2
  go_region_held3 (fun w' => w'.cell? ⟨w.heap.size, 0, none⟩ = some (.int .i64 p.g) ∧ w'.cell? ⟨w.heap.size, 1, none⟩ = some (.int .i64 p.s))
    (first | go_keep)
    (first
      | (go_at_call 55; refine (H1.out _ ((Chg.refl _ _).alloc _).drew).mono ?_; rintro e w1 ⟨F1, rfl, hc, hF1⟩; have HC1 := Lib.hid (((Chg.refl _ _).drew).then hc : Chg [] (w.alloc (.cells #[.int .i64 p.g, .int .i64 p.s] 94)) w1); have HF1 := Lib.hid hF1; obtain ⟨k0, k1⟩ := HK.out _ HC1.out; clear hc hF1)
      | (go_at_call 56; refine (H2.out _ (((Chg.refl _ _).alloc _).then HC1.out)).mono ?_; rintro e w2 ⟨F2, rfl, hc, hF2⟩; have HC2 := Lib.hid (HC1.out.then hc); have HF2 := Lib.hid hF2; have HD2 := Lib.hid hc; obtain ⟨m0, m1⟩ := HK.out _ HC2.out; clear hc hF2)
      | (go_at_call 66; refine (H3.out _ (((Chg.refl _ _).alloc _).then HC2.out)).mono ?_; rintro e w3 ⟨F3, rfl, hc, hF3⟩; have HC3 := Lib.hid (HC2.out.then hc); have HF3 := Lib.hid hF3; have HD3 := Lib.hid hc; obtain ⟨n0, n1⟩ := HK.out _ HC3.out; clear hc hF3)
      | (go_at_call 54; refine (refuse [(1, F1, true), (9, F2, s.slot p), (14, F3, !(s.f p).isSome)] (n := 3) rfl (by decide) rfl ⟨(HF1.out trivial).quiet (HD2.out.then HD3.out), fun _ => ⟨(HF2.out trivial).quiet HD3.out, fun hs => ⟨HF3.out hs, fun _ => trivial⟩⟩⟩).mono ?_; rintro e w4 ⟨he, hc⟩; replace he := he.trans (show _ = Ending.returned (.int .i64 z) by rw [HZ.out]; rfl); subst he; have HC4 := Lib.hid (HC3.out.then hc); obtain ⟨o0, o1⟩ := HK.out _ HC4.out; clear hc))
  all_goals
    go_wp2
    go_ret
    exact ⟨rfl, ((Chg.refl _ _).alloc _).then HC4.out⟩
end
end Go.Proofs
end
section
namespace Go.Proofs
open Go.RowKit
set_option linter.unusedVariables false
set_option linter.unusedSimpArgs false

/-! ### What is written: a capability comes to a place; it leaves -/
def hdAt (H : List Hd) (n : Nat) : Hd := (H[n]?).getD hd0
theorem hdAt_get {H : List Hd} {n : Nat} (h : n < H.length) : H[n]? = some (hdAt H n) := by
  unfold hdAt; rw [List.getElem?_eq_getElem h]; rfl
section
variable {w : World} {a gs slots m : Nat} {S : List Nat} {c : Tr} {f : Pt → Option Nat} {H : List Hd}
/-- The parts of a space, and what is left where its map and one of the things that are held have turned. -/
theorem Raw.turned (h : Raw w a S gs slots c m f H) {n : Nat} (hn : n < H.length) : ∃ ht bm g cH, H.length ≤ cH ∧ (∀ W, Chg [] w W →
      W.cell? ⟨a, 0, none⟩ = some (.int .i64 gs) ∧ W.cell? ⟨a, 1, none⟩ = some (.int .i64 slots) ∧ W.cell? ⟨a, 2, none⟩ = some (ptr ht) ∧ W.cell? ⟨a, 3, none⟩ = some (.map (some bm)) ∧ W.cell? ⟨a, 4, none⟩ = some (.slice (some ⟨g, 0, none⟩) H.length cH) ∧ a < W.heap.size ∧ (∀ j, W.frozen? ⟨a, j, none⟩ = false) ∧
      Mp W bm m f ∧ g < W.heap.size ∧ (∀ j, W.frozen? ⟨g, j, none⟩ = false) ∧ W.cell? ⟨g, n * 6, none⟩ = some (.int .i64 (hdAt H n).p.g) ∧ W.cell? ⟨g, n * 6 + 1, none⟩ = some (.int .i64 (hdAt H n).p.s) ∧ W.cell? ⟨g, n * 6 + 2, none⟩ = some (.int .i64 (hdAt H n).cap.kind) ∧ W.cell? ⟨g, n * 6 + 3, none⟩ = some (.int .i64 (hdAt H n).cap.idx) ∧ W.cell? ⟨g, n * 6 + 4, none⟩ = some (.int .u64 (hdAt H n).cap.gen) ∧ W.cell? ⟨g, n * 6 + 5, none⟩ = some (.int .u8 (hdAt H n).cap.rts)) ∧
    a ≠ bm ∧ g ≠ a ∧ g ≠ bm ∧ bm < w.heap.size ∧
    (∀ w1 m' f' d, Chg [bm] w w1 → Mp w1 bm m' f' → Raw (put6 w1 g (n * 6) d) a S gs slots c m' f' (H.set n d) ∧ Chg S w (put6 w1 g (n * 6) d)) := by
  have hget := hdAt_get hn
  obtain ⟨ht, St, bm, VH, hB, hT, hM, hR, rfl⟩ := h
  obtain ⟨g, cH, rfl, hf, hcH, hcell, hfz, hlt⟩ := hR.form (by omega)
  have hne : g ≠ a := fun e => by have := hR.ty hB (by decide); exact this (by simp [foot_some, e])
  have hnb : g ≠ bm := fun e => hM.row hR (by simp [foot_some, e])
  have hnt : g ∉ St := hR.other hT (by decide) (by decide) (by decide) g (by simp [foot_some])
  have hbt : bm ∉ St := hT.nomap hM
  have hba : bm ≠ a := hM.far hB
  refine ⟨ht, bm, g, cH, hcH, fun W hc => ?_, hba.symm, hne, hnb, hM.lt, fun w1 m' f' d hc hM' => ?_⟩
  · have hb := hB.quiet hc
    have e : ∀ o, W.cell? ⟨g, o, none⟩ = w.cell? ⟨g, o, none⟩ := fun o => hc.cell (p := ⟨g, o, none⟩) hlt (by simp)
    obtain ⟨c0, c1, c2, c3, c4, c5⟩ := hdCells_at H n _ hget
    exact ⟨hb.cell 0, hb.cell 1, hb.cell 2, hb.cell 3, hb.cell 4, hb.lt, hb.frozen, hM.quiet hc, Nat.lt_of_lt_of_le hlt hc.size, fun j => (hc.frozen (p := ⟨g, j, none⟩) hlt (by simp)).trans (hfz j), (e _).trans (hcell _ _ c0), (e _).trans (hcell _ _ c1), (e _).trans (hcell _ _ c2), (e _).trans (hcell _ _ c3), (e _).trans (hcell _ _ c4), (e _).trans (hcell _ _ c5)⟩
  · have k1 : Chg [g] w1 (put6 w1 g (n * 6) d) := chg_put6 (Chg.refl _ _) (.inl (by simp)) _ _
    refine ⟨⟨ht, St, bm, _, (hB.chg hc (by simpa using hba.symm)).chg k1 (by simpa using hne.symm), (hT.chg hc (fun k hk e => hbt (by simp at e; exact e ▸ hk))).chg k1 (fun k hk e => hnt (by simp at e; exact e ▸ hk)), hM'.chg k1 (by simpa using hnb.symm), ?_, rfl⟩, ?_⟩
    · rw [List.length_set]
      exact (hR.chg hc (by simpa [foot_some] using hnb)).put6_ hn rfl d
    · refine ((hc.mono (S' := a :: bm :: (St ++ foot (.slice (some ⟨g, 0, none⟩) H.length cH))) (fun k hk => .inl (by simp at hk; simp [hk])))).trans k1 (fun k hk => .inl (by simp at hk; simp [hk, foot_some]))
set_option maxHeartbeats 3200000 in
set_option maxRecDepth 100000 in
theorem stand_raw (h : Raw w a S gs slots c m f H) {n : Nat} (hn : n < H.length) (hl : H.length ≤ 512) (hm : m ≤ 100000) {p : Pt} (hp : p.ok) (cp : Cp) :
    Calls Try.prog 67 #[ptr a, .int .i64 (n : Nat), p.val, cp.val] w fun e w' => e = .returned (.tuple #[]) ∧ Raw w' a S gs slots c (m + if (f p).isSome then 0 else 1) (set' f p n) (H.set n ⟨p, cp⟩) ∧ Chg S w w' := by
  obtain ⟨ht, bm, g, cH, hcH, hh, hab, hga, hgb, hlb, hfin⟩ := h.turned hn
  have hW0 : Chg [] w (((w.alloc (.cells #[.int .i64 p.g, .int .i64 p.s] 94)).alloc (.cells cp.arr 39)).drew) := (((Chg.refl _ _).alloc _).alloc _).drew
  obtain ⟨w1, hrun, hg1, hm1, hs1⟩ := (hh _ hW0).2.2.2.2.2.2.2.1.store (by omega) hp (i := n) (by omega)
  have hW1 : Chg [bm] w w1 := (hW0.any).grown hg1 (fun k hk => by cases hk; exact .inl (by simp))
  have far : ∀ b, b ≠ bm → b < (((w.alloc (.cells #[.int .i64 p.g, .int .i64 p.s] 94)).alloc (.cells cp.arr 39)).drew).heap.size → w1.heap[b]? = (((w.alloc (.cells #[.int .i64 p.g, .int .i64 p.s] 94)).alloc (.cells cp.arr 39)).drew).heap[b]? := fun b hb hlt => hg1.block b hlt (by simpa using hb)
  have hsz : (((w.alloc (.cells #[.int .i64 p.g, .int .i64 p.s] 94)).alloc (.cells cp.arr 39)).drew).heap.size = w.heap.size + 1 + 1 := by simp [World.drew]
  have b1 : Blk w1 w.heap.size 94 #[.int .i64 p.g, .int .i64 p.s] := ((Blk.new w 94 _).alloc _).same (far _ (by omega) (by rw [hsz]; omega))
  have b2 : Blk w1 (w.heap.size + 1) 39 cp.arr := by
    have := Blk.new (w.alloc (.cells #[.int .i64 p.g, .int .i64 p.s] 94)) 39 cp.arr
    rw [show (w.alloc (.cells #[.int .i64 p.g, .int .i64 p.s] 94)).heap.size = w.heap.size + 1 by simp] at this
    exact this.same (far _ (by omega) (by rw [hsz]; omega))
  obtain ⟨_, _, _, c3, c4, la, fa, _, lg, fg, g0, g1, g2, g3, g4, g5⟩ := hh w (Chg.refl _ _)
  have cw : ∀ b j, b ≠ bm → b < w.heap.size → w1.cell? ⟨b, j, none⟩ = w.cell? ⟨b, j, none⟩ := fun b j hb hlt => hW1.cell (p := ⟨b, j, none⟩) hlt (by simpa using hb)
  have v4 := (cw a 4 hab la).trans c4
  have u0 := (cw g _ hgb lg).trans g0
  have u1 := (cw g _ hgb lg).trans g1
  have u2 := (cw g _ hgb lg).trans g2
  have u3 := (cw g _ hgb lg).trans g3
  have u4 := (cw g _ hgb lg).trans g4
  have u5 := (cw g _ hgb lg).trans g5
  have fz : ∀ j, w1.frozen? ⟨g, j, none⟩ = false := fun j => (hW1.frozen (p := ⟨g, j, none⟩) lg (by simpa using hgb)).trans (fg j)
  have z0 := fz (n * 6)
  have z1 := fz (n * 6 + 1)
  have z2 := fz (n * 6 + 2)
  have z3 := fz (n * 6 + 3)
  have z4 := fz (n * 6 + 4)
  have z5 := fz (n * 6 + 5)
  have la1 : a < w1.heap.size := Nat.lt_of_lt_of_le la hW1.size
  have lg1 : g < w1.heap.size := Nat.lt_of_lt_of_le lg hW1.size
  have x0 := b1.cell 0
  have x1 := b1.cell 1
  have lb1 := b1.lt
  have y0 := b2.cell 0
  have y1 := b2.cell 1
  have y2 := b2.cell 2
  have y3 := b2.cell 3
  have lb2 := b2.lt
  simp only [List.getElem?_toArray, List.getElem?_cons_succ, List.getElem?_cons_zero] at x0 x1 y0 y1 y2 y3
  have HF := Lib.hid (hfin w1 _ _ ⟨p, cp⟩ hW1 hm1)
  obtain ⟨m', hm'⟩ : ∃ m', m' = m + if (f p).isSome then 0 else 1 := ⟨_, rfl⟩
  rw [← hm'] at HF ⊢
  obtain ⟨l, hll⟩ : ∃ l, l = H.length := ⟨_, rfl⟩
  rw [← hll] at v4 hn
  have i0 : (0 : Int) ≤ (n : Int) := by omega
  have i1 : (n : Int) < (l : Int) := by omega
  have ne1 : ¬ (g = w.heap.size) := by omega
  have ne2 : ¬ (g = w.heap.size + 1) := by omega
  clear hh hfin hg1 hm1 hs1 hW1 far hsz b1 b2 fa fg g0 g1 g2 g3 g4 g5 cw fz c4 hll h hcH hl hm hn hm'
  go_enter Try.func67, Try.ntmps67
  go_wp2
  go_region
  go_wp2
  go_region
  all_goals
    go_wp2
    go_end0
    exact ⟨rfl, HF.out.1.quiet (Chg.refl _ _).drew, HF.out.2.drew⟩
theorem step_drop (w : World) {ops : Array Oper} {o : Oper} {a : Act} {K : Act → World → Prop} {Q : Exit → Act → World → Prop} {E : Prop} (hgd : o.guard = none) (mo x : Operand)
    (hop : o.op = Op.call { callee := Callee.builtin Builtin.delete, args := #[mo, x], argTypes := #[70, 94] }) {b m : Nat} {f : Pt → Option Nat} (hm : a.eval mo = .map (some b)) (h : Mp w b m f) {p : Pt} (hx : a.eval x = p.val) (hi : p.ok)
    (hK : ∀ w', w.grownBy w' (some b) → Mp w' b (m - if (f p).isSome then 1 else 0) (del f p) → w'.heap.size = w.heap.size → K (a.put o.dst (.tuple #[])) w') :
    if Region.wanted o (yielded ops a.tmps) = true then Oper.wp Try.prog o a w K Q else E := by
  have hw : Region.wanted o (yielded ops a.tmps) = true := by simp [Region.wanted, hgd]
  rw [if_pos hw]
  obtain ⟨w', hrun, r1, r2, r3⟩ := h.drop hi o.type
  unfold Oper.wp
  simp only [execOp, hop, resolve, invoke, builtin, Sem.run_bind, Sem.run_pure, Result.andThen_ok, List.map_toArray, List.map_cons, List.map_nil, hm, hx, hrun]
  exact hK w' r1 r2 r3
/-- One leaves. -/
structure Lv where
  m : Nat
  f : Pt → Option Nat
  H : List Hd
def Lv.step (x : Lv) (n : Nat) : Lv := ⟨x.m - if (x.f (hdAt x.H n).p).isSome then 1 else 0, del x.f (hdAt x.H n).p, x.H.set n hd0⟩
def Lv.all (x : Lv) (l : List Nat) : Lv := l.foldl Lv.step x
theorem Lv.all_snoc (x : Lv) (l : List Nat) (n : Nat) : x.all (l ++ [n]) = (x.all l).step n := by unfold Lv.all; rw [List.foldl_append]; rfl
theorem Lv.all_len (x : Lv) (l : List Nat) : (x.all l).H.length = x.H.length := by
  induction l generalizing x with
  | nil => rfl
  | cons n l ih => show ((x.step n).all l).H.length = _; rw [ih]; simp [Lv.step]
theorem hd0_ok : hd0.p.ok := ⟨⟨by show (-9223372036854775808 : Int) ≤ 0; omega, by show (0 : Int) ≤ 9223372036854775807; omega⟩, ⟨by show (-9223372036854775808 : Int) ≤ 0; omega, by show (0 : Int) ≤ 9223372036854775807; omega⟩⟩
theorem Lv.step_or (x : Lv) (n k : Nat) : hdAt (x.step n).H k = hd0 ∨ hdAt (x.step n).H k = hdAt x.H k := by
  show hdAt (x.H.set n hd0) k = hd0 ∨ hdAt (x.H.set n hd0) k = hdAt x.H k
  unfold hdAt
  rw [List.getElem?_set]
  split
  · split
    · exact .inl rfl
    · exact .inl rfl
  · exact .inr rfl
theorem Lv.all_or (l : List Nat) : ∀ (x : Lv) (k : Nat), hdAt (x.all l).H k = hd0 ∨ hdAt (x.all l).H k = hdAt x.H k := by
  induction l with
  | nil => exact fun x k => .inr rfl
  | cons n l ih =>
    intro x k
    rcases ih (x.step n) k with h | h
    · exact .inl h
    · rcases x.step_or n k with h2 | h2
      · exact .inl (h.trans h2)
      · exact .inr (h.trans h2)
theorem Lv.all_ok {x : Lv} {l : List Nat} {k : Nat} (h : (hdAt x.H k).p.ok) : (hdAt (x.all l).H k).p.ok := by
  rcases Lv.all_or l x k with e | e
  · rw [e]; exact hd0_ok
  · rw [e]; exact h
set_option maxHeartbeats 3200000 in
set_option maxRecDepth 100000 in
theorem leave_raw (h : Raw w a S gs slots c m f H) (hl : H.length ≤ 512) {A : Option Addr} {cc : Nat} {ns : List Nat} (hpl : ∀ n ∈ ns, (hdAt H n).p.ok) (hr : Rd w (.slice A ns.length cc) (iN ns)) (hf : ∀ k ∈ foot (.slice A ns.length cc), k ∉ S) (hn : ∀ n ∈ ns, n < H.length) (hn5 : ns.length ≤ 512) :
    Calls Try.prog 62 #[ptr a, .slice A ns.length cc] w fun e w' => e = .returned (.tuple #[]) ∧ Raw w' a S gs slots c (Lv.all ⟨m, f, H⟩ ns).m (Lv.all ⟨m, f, H⟩ ns).f (Lv.all ⟨m, f, H⟩ ns).H ∧ Chg S w w' := by
  have HR := Lib.hid hr
  have HF := Lib.hid hf
  have HN := Lib.hid hn
  have HP := Lib.hid hpl
  have H0 := Lib.hid h
  obtain ⟨N, hN⟩ : ∃ N, N = ns.length := ⟨_, rfl⟩
  rw [← hN] at HR HF hn5 ⊢
  have HNN := Lib.hid hN
  clear hr hf hn hpl h hN
  go_enter Try.func62, Try.ntmps62
  go_wp2
  go_loopg [8] N (fun gh i wr => ∃ k : Nat, k + gh = N ∧ i = .int .i64 k ∧ Hid (Raw wr a S gs slots c (Lv.all ⟨m, f, H⟩ (ns.take k)).m (Lv.all ⟨m, f, H⟩ (ns.take k)).f (Lv.all ⟨m, f, H⟩ (ns.take k)).H ∧ Chg S w wr))
  case atStart => exact ⟨0, by omega, rfl, Lib.hid ⟨by simpa [Lv.all] using H0.out, Chg.refl _ _⟩⟩
  case round =>
    obtain ⟨k, hk, rfl, HI⟩ := hrel
    by_cases hlt : k < N
    · obtain ⟨n, hx⟩ : ∃ n, ns[k]? = some n := ⟨_, List.getElem?_eq_getElem (by rw [← HNN.out]; exact hlt)⟩
      obtain ⟨hw, hc⟩ := HI.out
      have hnl : n < (Lv.all ⟨m, f, H⟩ (ns.take k)).H.length := by rw [Lv.all_len]; exact HN.out n (List.mem_of_getElem? hx)
      obtain ⟨ht, bm, g, cH, hcH, hh, hab, hga, hgb, hlb, hfin⟩ := hw.turned hnl
      have hst : Lv.all ⟨m, f, H⟩ (ns.take (k + 1)) = (Lv.all ⟨m, f, H⟩ (ns.take k)).step n := by rw [List.take_add_one, hx]; exact Lv.all_snoc _ _ _
      have hok := Lv.all_ok (x := ⟨m, f, H⟩) (l := ns.take k) (HP.out n (List.mem_of_getElem? hx))
      have hl5 : (Lv.all ⟨m, f, H⟩ (ns.take k)).H.length ≤ 512 := by rw [Lv.all_len]; exact hl
      obtain ⟨X, hX⟩ : ∃ X, X = Lv.all ⟨m, f, H⟩ (ns.take k) := ⟨_, rfl⟩
      rw [← hX] at hw hnl hh hfin hst hok hl5
      have hrd := HR.out.chg hc HF.out
      obtain ⟨A2, cc2, hv2, _, _, _, hcell⟩ := hrd.open_
      rw [iN_len, ← HNN.out] at hv2
      injection hv2 with hA _ hcc
      subst hA hcc
      obtain ⟨b2, o2, rfl, hb2, hcb⟩ := hcell k _ (iN_at hx)
      obtain ⟨_, _, _, c3, c4, la, fa, hM, lg, fg, g0, g1, g2, g3, g4, g5⟩ := hh wr (Chg.refl _ _)
      have HST := Lib.hid hst
      have HFIN := Lib.hid hfin
      have HC := Lib.hid hc
      have HM := Lib.hid hM
      have HOK := Lib.hid hok
      obtain ⟨L, hL⟩ : ∃ L, L = X.H.length := ⟨_, rfl⟩
      obtain ⟨d, hd⟩ : ∃ d, d = hdAt X.H n := ⟨_, rfl⟩
      have HD := Lib.hid hd
      rw [← hL] at c4 hnl
      rw [← hd] at g0 g1 g2 g3 g4 g5 HOK
      have k0 : (0 : Int) ≤ (k : Int) := by omega
      have k1 : (k : Int) < (N : Int) := by omega
      have i0 : (0 : Int) ≤ (n : Int) := by omega
      have i1 : (n : Int) < (L : Int) := by omega
      have HG := Lib.hid (show g ≠ bm ∧ a ≠ bm ∧ g < wr.heap.size ∧ a < wr.heap.size from ⟨hgb, hab, lg, la⟩)
      have HFG := Lib.hid fg
      clear HI hw hc hh hfin hst hok hM hL hd hrd hcell fa fg hX hl5 hcH hx hgb hga
      go_wp2
      go_region_law ((refine step_drop _ (by rfl) _ _ (by rfl) (by rfl) (HM.out.quiet (Chg.refl _ _).drew) (by rfl) HOK.out ?_; intro w2 hg2 hm2 hs2; have hb : Chg [bm] wr w2 := ((Chg.refl [bm] wr).drew).grown hg2 (fun k hk => by cases hk; exact .inl (by simp)); have q4 := (hb.cell (p := ⟨a, 4, none⟩) HG.out.2.2.2 (by simpa using HG.out.2.1)).trans c4; have cw := (fun j => hb.cell (p := ⟨g, j, none⟩) HG.out.2.2.1 (by simpa using HG.out.1)); have fw := (fun j => (hb.frozen (p := ⟨g, j, none⟩) HG.out.2.2.1 (by simpa using HG.out.1)).trans (HFG.out j)); have u0 := (cw _).trans g0; have u1 := (cw _).trans g1; have u2 := (cw _).trans g2; have u3 := (cw _).trans g3; have u4 := (cw _).trans g4; have u5 := (cw _).trans g5; have z0 := fw (n * 6); have z1 := fw (n * 6 + 1); have z2 := fw (n * 6 + 2); have z3 := fw (n * 6 + 3); have z4 := fw (n * 6 + 4); have z5 := fw (n * 6 + 5); have la2 := Nat.lt_of_lt_of_le HG.out.2.2.2 hb.size; have lg2 := Nat.lt_of_lt_of_le HG.out.2.2.1 hb.size; have HFI := Lib.hid (HFIN.out w2 _ _ hd0 hb hm2); clear hb hg2 hm2 hs2 cw fw))
      all_goals
        go_wp2
        go_roundg (N - k - 1)
        case measure => omega
        case rel =>
          refine ⟨k + 1, by omega, by go_num, Lib.hid ⟨?_, HC.out.trans HFI.out.2 (fun k hk => .inl hk)⟩⟩
          rw [HST.out]
          unfold Lv.step
          rw [← HD.out]
          exact HFI.out.1
    · obtain rfl : k = N := by omega
      have HI2 := Lib.hid HI.out
      go_wp2
      go_end0
      have hh := HI2.out
      rw [show ns.take k = ns by rw [HNN.out]; exact List.take_length] at hh
      exact ⟨rfl, hh.1, hh.2⟩
end
end Go.Proofs
end
section
namespace Go.Proofs
open Go.RowKit
set_option linter.unusedVariables false
set_option linter.unusedSimpArgs false

/-! ### What a space becomes, plainly -/
theorem hdAt_set (H : List Hd) (n k : Nat) (d : Hd) (h : n < H.length) : hdAt (H.set n d) k = if k = n then d else hdAt H k := by
  unfold hdAt
  rw [List.getElem?_set]
  by_cases e : n = k
  · subst e; rw [if_pos rfl, if_pos rfl, if_pos h]; rfl
  · rw [if_neg e, if_neg (fun h => e h.symm)]
theorem Sp.hd_eq (s : Sp) (n : Nat) : s.hd n = hdAt s.H n := rfl
def Sp.add (s : Sp) (o : Option Nat) (p : Pt) (c : Cp) : Sp :=
  { s with t := s.t.addAt o (s.t.free.headD 0) s.t.free.tail, f := set' s.f p (s.t.free.headD 0), H := s.H.set (s.t.free.headD 0) ⟨p, c⟩ }
theorem Fo.free_cons {t : Fo} (h : t.WF) (hlt : t.len < t.size) : t.free = t.free.headD 0 :: t.free.tail := by
  have := h.len
  cases hf : t.free with
  | nil => rw [hf] at this; simp at this; omega
  | cons a r => rfl
theorem Fo.len_add {t : Fo} (h : t.WF) {a : Nat} {r : List Nat} (hf : t.free = a :: r) {o : Option Nat} (ho : ∀ p, o = some p → t.there p = true) : (t.addAt o a r).len = t.len + 1 := by
  have h1 := (h.add hf ho).len
  have h2 := h.len
  rw [Fo.addAt_free, Fo.addAt_size] at h1
  rw [hf] at h2
  simp at h2
  omega
theorem Sp.WF.add {s : Sp} (h : s.WF) (ht : s.t.WF) (hlt : s.t.len < s.t.size) {o : Option Nat} (ho : ∀ q, o = some q → s.t.there q = true) {p : Pt} (hs : s.slot p = true) (hf : s.f p = none) {c : Cp} (hc : c.ok)
    (ha : ∀ q, o = some q → amongP c.rts (s.hd q).cap.rts = true) : (s.add o p c).WF := by
  have hfr := Fo.free_cons ht hlt
  obtain ⟨a, hA⟩ : ∃ a, a = s.t.free.headD 0 := ⟨_, rfl⟩
  obtain ⟨r, hR⟩ : ∃ r, r = s.t.free.tail := ⟨_, rfl⟩
  unfold Sp.add
  rw [← hA, ← hR] at hfr ⊢
  have hm := (ht.frees.2 a).1 (by rw [hfr]; simp)
  have hal : a < s.H.length := by rw [h.len]; exact hm.1
  have hne : ∀ n, s.t.there n = true → n ≠ a := fun n hn e => by rw [e, hm.2] at hn; cases hn
  have hhd : ∀ k, hdAt (s.H.set a ⟨p, c⟩) k = if k = a then ⟨p, c⟩ else hdAt s.H k := fun k => hdAt_set _ _ _ _ hal
  have hth : ∀ n, (s.t.addAt o a r).there n = true ↔ n = a ∨ s.t.there n = true := fun n => by
    rw [Fo.addAt_there]
    by_cases e : n = a
    · subst e; rw [upd_same]; simp
    · rw [upd_other _ _ e]; simp [e]
  refine ⟨h.gs, h.slots, by show 1 ≤ (s.t.addAt o a r).size ∧ (s.t.addAt o a r).size ≤ 512; rw [Fo.addAt_size]; exact h.size, by show (s.H.set a _).length = (s.t.addAt o a r).size; rw [Fo.addAt_size, List.length_set]; exact h.len, fun n hn => ?_, fun x n hn => ?_, fun n q hn hq => ?_⟩
  · show s.slot (hdAt (s.H.set a ⟨p, c⟩) n).p = true ∧ set' s.f p a (hdAt (s.H.set a ⟨p, c⟩) n).p = some n ∧ (hdAt (s.H.set a ⟨p, c⟩) n).cap.ok
    rw [hhd]
    rcases (hth n).1 hn with rfl | hn
    · rw [if_pos rfl]
      exact ⟨hs, by unfold set'; rw [if_pos rfl], hc⟩
    · rw [if_neg (hne n hn)]
      obtain ⟨q1, q2, q3⟩ := h.at_ n hn
      refine ⟨q1, ?_, q3⟩
      unfold set'
      rw [if_neg (fun e => by have := q2; rw [Sp.hd_eq, e, hf] at this; cases this)]
      exact q2
  · change set' s.f p a x = some n at hn
    show (s.t.addAt o a r).there n = true ∧ (hdAt (s.H.set a ⟨p, c⟩) n).p = x
    rw [hhd, hth]
    unfold set' at hn
    split at hn
    · rename_i e
      cases hn
      rw [if_pos rfl]
      exact ⟨.inl rfl, e.symm⟩
    · obtain ⟨q1, q2⟩ := h.back x n hn
      rw [if_neg (hne n q1)]
      exact ⟨.inr q1, q2⟩
  · change (s.t.addAt o a r).par n = some q at hq
    change (s.t.addAt o a r).there n = true at hn
    show amongP (hdAt (s.H.set a ⟨p, c⟩) n).cap.rts (hdAt (s.H.set a ⟨p, c⟩) q).cap.rts = true
    rw [hhd, hhd]
    rw [Fo.addAt_par] at hq
    rcases (hth n).1 hn with rfl | hn
    · rw [upd_same] at hq
      rw [if_pos rfl, if_neg (hne q (ho q hq))]
      exact ha q hq
    · rw [upd_other _ _ (hne n hn)] at hq
      rw [if_neg (hne n hn), if_neg (hne q (ht.up hn hq))]
      exact h.amg n q hn hq
/-- One is dropped. -/
def Sp.drop (s : Sp) (n : Nat) : Sp := { s with t := s.t.drop n, f := del s.f (s.hd n).p, H := s.H.set n hd0 }
theorem Sp.WF.lt {s : Sp} (h : s.WF) (ht : s.t.WF) {n : Nat} (hn : s.t.there n = true) : n < s.H.length := by rw [h.len]; exact ht.lt n hn
theorem Sp.WF.drop {s : Sp} (h : s.WF) (ht : s.t.WF) {n : Nat} (hn : s.t.there n = true) : (s.drop n).WF := by
  have hnl := h.lt ht hn
  have hhd : ∀ k, hdAt (s.H.set n hd0) k = if k = n then hd0 else hdAt s.H k := fun k => hdAt_set _ _ _ _ hnl
  have hth : ∀ k, (s.t.drop n).there k = true ↔ k ≠ n ∧ s.t.there k = true := fun k => by
    rw [Fo.drop_there]
    by_cases e : k = n
    · subst e; rw [upd_same]; simp
    · rw [upd_other _ _ e]; simp [e]
  refine ⟨h.gs, h.slots, by show 1 ≤ (s.t.drop n).size ∧ (s.t.drop n).size ≤ 512; rw [Fo.drop_size]; exact h.size, by show (s.H.set n hd0).length = (s.t.drop n).size; rw [Fo.drop_size, List.length_set]; exact h.len, fun k hk => ?_, fun x k hk => ?_, fun k q hk hq => ?_⟩
  · obtain ⟨k1, k2⟩ := (hth k).1 hk
    show s.slot (hdAt (s.H.set n hd0) k).p = true ∧ del s.f (s.hd n).p (hdAt (s.H.set n hd0) k).p = some k ∧ (hdAt (s.H.set n hd0) k).cap.ok
    rw [hhd, if_neg k1]
    obtain ⟨q1, q2, q3⟩ := h.at_ k k2
    refine ⟨q1, ?_, q3⟩
    unfold del
    rw [if_neg (show ¬ (hdAt s.H k).p = (s.hd n).p from fun e => k1 (h.inj k2 hn e))]
    exact q2
  · change del s.f (s.hd n).p x = some k at hk
    show (s.t.drop n).there k = true ∧ (hdAt (s.H.set n hd0) k).p = x
    unfold del at hk
    split at hk
    · cases hk
    · rename_i e
      obtain ⟨q1, q2⟩ := h.back x k hk
      have hkn : k ≠ n := fun e' => e (by rw [← q2, e'])
      rw [hhd, hth, if_neg hkn]
      exact ⟨⟨hkn, q1⟩, q2⟩
  · obtain ⟨k1, k2⟩ := (hth k).1 hk
    change (s.t.drop n).par k = some q at hq
    show amongP (hdAt (s.H.set n hd0) k).cap.rts (hdAt (s.H.set n hd0) q).cap.rts = true
    rw [Fo.drop_par, if_neg k1] at hq
    rw [hhd, hhd, if_neg k1]
    have bd := fun j (hj : s.t.there j = true) => (h.at_ j hj).2.2.2.2.2.2
    split at hq
    · rename_i hc
      have hkp := (ht.kid hc).2.1
      have hqt := ht.up hn hq
      have hqn : q ≠ n := fun e => ht.self_par hn (by rw [hq, e])
      rw [if_neg hqn]
      exact amongP_trans (bd k k2) (bd n hn) (bd q hqt) (h.amg k n k2 hkp) (h.amg n q hn hq)
    · rename_i hc
      have hqn : q ≠ n := fun e => hc (by have := ht.mem k k2; rw [hq, e] at this; exact this)
      rw [if_neg hqn]
      exact h.amg k q k2 hq
/-- One is moved. -/
def Sp.move (s : Sp) (n : Nat) (p : Pt) : Sp := { s with f := set' (del s.f (s.hd n).p) p n, H := s.H.set n ⟨p, (s.hd n).cap⟩ }
theorem Sp.WF.move {s : Sp} (h : s.WF) (ht : s.t.WF) {n : Nat} (hn : s.t.there n = true) {p : Pt} (hs : s.slot p = true) (hf : s.f p = none) : (s.move n p).WF := by
  have hnl := h.lt ht hn
  have hhd : ∀ k, hdAt (s.H.set n ⟨p, (s.hd n).cap⟩) k = if k = n then ⟨p, (s.hd n).cap⟩ else hdAt s.H k := fun k => hdAt_set _ _ _ _ hnl
  have hcap : ∀ k, (hdAt (s.H.set n ⟨p, (s.hd n).cap⟩) k).cap = (s.hd k).cap := fun k => by
    rw [hhd]
    by_cases e : k = n
    · subst e; rw [if_pos rfl]
    · rw [if_neg e]; rfl
  refine ⟨h.gs, h.slots, h.size, by show (s.H.set n _).length = s.t.size; rw [List.length_set]; exact h.len, fun k hk => ?_, fun x k hk => ?_, fun k q hk hq => ?_⟩
  · change s.t.there k = true at hk
    show s.slot (hdAt (s.H.set n ⟨p, (s.hd n).cap⟩) k).p = true ∧ set' (del s.f (s.hd n).p) p n (hdAt (s.H.set n ⟨p, (s.hd n).cap⟩) k).p = some k ∧ (hdAt (s.H.set n ⟨p, (s.hd n).cap⟩) k).cap.ok
    refine ⟨?_, ?_, by rw [hcap]; exact (h.at_ k hk).2.2⟩
    · rw [hhd]
      by_cases e : k = n
      · rw [if_pos e]; exact hs
      · rw [if_neg e]; exact (h.at_ k hk).1
    · rw [hhd]
      by_cases e : k = n
      · subst e; rw [if_pos rfl]; unfold set'; rw [if_pos rfl]
      · rw [if_neg e]
        have q2 := (h.at_ k hk).2.1
        unfold set' del
        rw [if_neg (fun e2 => by rw [Sp.hd_eq, e2, hf] at q2; cases q2), if_neg (show ¬ (hdAt s.H k).p = (s.hd n).p from fun e2 => e (h.inj hk hn e2))]
        exact q2
  · change set' (del s.f (s.hd n).p) p n x = some k at hk
    show s.t.there k = true ∧ (hdAt (s.H.set n ⟨p, (s.hd n).cap⟩) k).p = x
    unfold set' del at hk
    split at hk
    · rename_i e
      cases hk
      rw [hhd, if_pos rfl]
      exact ⟨hn, e.symm⟩
    · split at hk
      · cases hk
      · rename_i e1 e2
        obtain ⟨q1, q2⟩ := h.back x k hk
        have hkn : k ≠ n := fun e' => e2 (by rw [← q2, e'])
        rw [hhd, if_neg hkn]
        exact ⟨q1, q2⟩
  · show amongP (hdAt (s.H.set n ⟨p, (s.hd n).cap⟩) k).cap.rts (hdAt (s.H.set n ⟨p, (s.hd n).cap⟩) q).cap.rts = true
    rw [hcap, hcap]
    exact h.amg k q hk hq
/-! ### Those that leave together -/
theorem Lv.all_is : ∀ (l : List Nat) (x : Lv), l.Nodup → (∀ n ∈ l, n < x.H.length ∧ x.f (hdAt x.H n).p = some n) → (∀ p n, x.f p = some n → (hdAt x.H n).p = p) →
    (∀ p, (x.all l).f p = match x.f p with | some n => if n ∈ l then none else some n | none => none) ∧ (∀ k, hdAt (x.all l).H k = if k ∈ l then hd0 else hdAt x.H k) ∧ (x.all l).m + l.length = max x.m l.length
  | [], x, _, _, _ => by
    refine ⟨fun p => ?_, fun k => by simp [Lv.all], by simp [Lv.all]⟩
    show x.f p = _
    cases x.f p <;> simp
  | n :: l, x, hnd, h1, h2 => by
    obtain ⟨hnl, hnd2⟩ := List.nodup_cons.1 hnd
    obtain ⟨n1, n2⟩ := h1 n (by simp)
    have hhd : ∀ k, hdAt (x.step n).H k = if k = n then hd0 else hdAt x.H k := fun k => hdAt_set _ _ _ _ n1
    have hstf : ∀ p, (x.step n).f p = if p = (hdAt x.H n).p then none else x.f p := fun p => rfl
    have key := Lv.all_is l (x.step n) hnd2 (fun m hm => by
      obtain ⟨m1, m2⟩ := h1 m (by simp [hm])
      have hmn : m ≠ n := fun e => hnl (e ▸ hm)
      refine ⟨by simpa [Lv.step] using m1, ?_⟩
      rw [hhd, if_neg hmn, hstf, if_neg (fun e => hmn (by rw [e, n2] at m2; exact (Option.some.inj m2).symm))]
      exact m2) (fun p k hp => by
      rw [hstf] at hp
      split at hp
      · cases hp
      · rename_i e
        have := h2 p k hp
        rw [hhd, if_neg (fun e2 => e (by rw [← this, e2]))]
        exact this)
    obtain ⟨k1, k2, k3⟩ := key
    refine ⟨fun p => ?_, fun k => ?_, ?_⟩
    · show ((x.step n).all l).f p = _
      rw [k1, hstf]
      by_cases e : p = (hdAt x.H n).p
      · rw [if_pos e, e, n2]
        simp
      · rw [if_neg e]
        cases hx : x.f p with
        | none => rfl
        | some k =>
          have hkn : k ≠ n := fun e2 => e (by rw [← h2 p k hx, e2])
          simp [hkn]
    · show hdAt ((x.step n).all l).H k = _
      rw [k2, hhd]
      by_cases e : k = n
      · subst e; simp [hnl]
      · simp [e]
    · show ((x.step n).all l).m + (l.length + 1) = max x.m (l.length + 1)
      have : (x.step n).m = x.m - 1 := by
        show x.m - (if (x.f (hdAt x.H n).p).isSome then 1 else 0) = _
        rw [n2]; rfl
      rw [this] at k3
      omega
/-- All below one leave. -/
def Sp.prune (s : Sp) (n : Nat) (l : List Nat) : Sp := { s with t := s.t.prune n l, f := (Lv.all ⟨s.t.len, s.f, s.H⟩ l).f, H := (Lv.all ⟨s.t.len, s.f, s.H⟩ l).H }
section
variable {s : Sp} {n : Nat} {l : List Nat}
theorem Sp.WF.lv (h : s.WF) (ht : s.t.WF) (hl : Pre s.t (s.t.kids n) l) : (∀ p, (s.prune n l).f p = match s.f p with | some k => if k ∈ l then none else some k | none => none) ∧ (∀ k, (s.prune n l).hd k = if k ∈ l then hd0 else s.hd k) ∧ (Lv.all ⟨s.t.len, s.f, s.H⟩ l).m + l.length = max s.t.len l.length :=
  Lv.all_is l ⟨s.t.len, s.f, s.H⟩ (hl.desc_nodup ht) (fun k hk => ⟨h.lt ht ((hl.desc k).1 hk |>.there ht).2, (h.at_ k ((hl.desc k).1 hk |>.there ht).2).2.1⟩) (fun p k hp => (h.back p k hp).2)
theorem Sp.WF.prune (h : s.WF) (ht : s.t.WF) (hl : Pre s.t (s.t.kids n) l) : (s.prune n l).WF ∧ (Lv.all ⟨s.t.len, s.f, s.H⟩ l).m = (s.prune n l).t.len := by
  obtain ⟨k1, k2, k3⟩ := h.lv ht hl
  have hlen := Fo.len_prune ht hl
  have hth : ∀ k, (s.t.prune n l).there k = true ↔ s.t.there k = true ∧ k ∉ l := fun k => by
    show (s.t.there k && !decide (k ∈ l)) = true ↔ _
    rw [Bool.and_eq_true, Bool.not_eq_true', decide_eq_false_iff_not]
  refine ⟨⟨h.gs, h.slots, h.size, by show (Lv.all ⟨s.t.len, s.f, s.H⟩ l).H.length = s.t.size; rw [Lv.all_len]; exact h.len, fun k hk => ?_, fun x k hk => ?_, fun k q hk hq => ?_⟩, by show _ = (s.t.prune n l).len; omega⟩
  · obtain ⟨q1, q2⟩ := (hth k).1 hk
    rw [k2, if_neg q2, k1]
    obtain ⟨r1, r2, r3⟩ := h.at_ k q1
    exact ⟨r1, by rw [r2]; simp [q2], r3⟩
  · rw [k1] at hk
    cases hx : s.f x with
    | none => rw [hx] at hk; cases hk
    | some j =>
      rw [hx] at hk
      simp only at hk
      split at hk
      · cases hk
      · rename_i hj
        cases hk
        obtain ⟨q1, q2⟩ := h.back x k hx
        rw [k2, if_neg hj]
        exact ⟨(hth k).2 ⟨q1, hj⟩, q2⟩
  · obtain ⟨q1, q2⟩ := (hth k).1 hk
    change (if k ∈ l then none else s.t.par k) = some q at hq
    rw [if_neg q2] at hq
    have hql : q ∉ l := fun hm => q2 ((hl.desc k).2 (((hl.desc q).1 hm).trans (.kid (by have := ht.mem k q1; rw [hq] at this; exact this))))
    rw [k2, k2, if_neg q2, if_neg hql]
    exact h.amg k q q1 hq
end
end Go.Proofs
end
section
namespace Go.Proofs
open Go.RowKit
set_option linter.unusedVariables false
set_option linter.unusedSimpArgs false

/-- What a call on the space at a leaves: the space s'; its blocks are those it had, or new ones; nothing else has turned. -/
def STurns (a : Nat) (S : List Nat) (s' : Sp) (w w' : World) : Prop := ∃ S', SpAt w' a S' s' ∧ (∀ k ∈ S', k ∈ S ∨ w.heap.size ≤ k) ∧ Chg S w w'
section
variable {a : Nat} {S : List Nat} {s : Sp} {x y z : World}
theorem STurns.refl (H : SpAt x a S s) (hc : Chg [] x y) : STurns a S s x y := ⟨S, H.quiet hc, fun k hk => .inl hk, hc.any⟩
theorem STurns.later (H : STurns a S s x y) (hc : Chg [] y z) : STurns a S s x z := by
  obtain ⟨S', h1, h2, h3⟩ := H
  exact ⟨S', h1.quiet hc, h2, h3.then hc⟩
theorem STurns.earlier (H : STurns a S s y z) (hc : Chg [] x y) : STurns a S s x z := by
  obtain ⟨S', h1, h2, h3⟩ := H
  exact ⟨S', h1, fun k hk => (h2 k hk).imp id (fun h => Nat.le_trans hc.size h), (Chg.any hc).trans h3 (fun k hk => .inl hk)⟩
theorem STurns.trans {S1 : List Nat} (hs : ∀ k ∈ S1, k ∈ S ∨ x.heap.size ≤ k) (hc : Chg S x y) (H : STurns a S1 s y z) : STurns a S s x z := by
  obtain ⟨S2, h1, h2, h3⟩ := H
  refine ⟨S2, h1, fun k hk => ?_, hc.trans h3 hs⟩
  rcases h2 k hk with h | h
  · exact hs k h
  · exact .inr (Nat.le_trans hc.size h)
end
section
variable {w : World} {a gs slots m : Nat} {S : List Nat} {c : Tr} {f : Pt → Option Nat} {H : List Hd}
/-- The tree of a space; and what is left where it has turned. -/
theorem Raw.tree (h : Raw w a S gs slots c m f H) : ∃ ht St, (∀ W, Chg [] w W → W.cell? ⟨a, 2, none⟩ = some (ptr ht) ∧ a < W.heap.size ∧ TreeAt W ht St c) ∧ (∀ k ∈ St, k < w.heap.size) ∧ a ∉ St ∧ (∀ k ∈ St, k ∈ S) ∧
    (∀ W w' c' St', Chg [] w W → TreeAt w' ht St' c' → (∀ k ∈ St', k ∈ St ∨ W.heap.size ≤ k) → Chg St W w' → ∃ S', Raw w' a S' gs slots c' m f H ∧ (∀ k ∈ S', k ∈ S ∨ w.heap.size ≤ k) ∧ Chg S w w' ∧ ∀ k ∈ S', k ∈ S ∨ k ∈ St') := by
  obtain ⟨ht, St, bm, VH, hB, hT, hM, hR, rfl⟩ := h
  refine ⟨ht, St, fun W hc => ⟨(hB.quiet hc).cell 2, (hB.quiet hc).lt, hT.quiet hc⟩, hT.lt, hT.other hB (by decide) (by decide) (by decide), fun k hk => by simp [hk], fun W w' c' St' hc t1 t2 t3 => ?_⟩
  have hbt : bm ∉ St := hT.nomap hM
  have hat : a ∉ St := hT.other hB (by decide) (by decide) (by decide)
  have hrt := hR.other hT (by decide) (by decide) (by decide)
  refine ⟨_, ⟨ht, St', bm, VH, (hB.quiet hc).chg t3 hat, t1, (hM.quiet hc).chg t3 hbt, (hR.chg hc (fun _ _ h => by cases h)).chg t3 hrt, rfl⟩, fun k hk => ?_, (Chg.any hc).trans t3 (fun k hk => .inl (by simp [hk])), fun k hk => ?_⟩
  · simp only [List.mem_cons, List.mem_append] at hk ⊢
    rcases hk with h | h | h | h
    · exact .inl (.inl h)
    · exact .inl (.inr (.inl h))
    · rcases t2 k h with h | h
      · exact .inl (.inr (.inr (.inl h)))
      · exact .inr (Nat.le_trans hc.size h)
    · exact .inl (.inr (.inr (.inr h)))
  · simp only [List.mem_cons, List.mem_append] at hk ⊢
    rcases hk with h | h | h | h
    · exact .inl (.inl h)
    · exact .inl (.inr (.inl h))
    · exact .inr h
    · exact .inl (.inr (.inr (.inr h)))
end
section
variable {w : World} {a : Nat} {S : List Nat} {s : Sp}
theorem optI_oI (o : Option Nat) : optI (oI o) = o := by
  cases o with
  | none => rfl
  | some n => show optI (n : Nat) = some n; unfold optI; rw [if_neg (by omega), Int.toNat_natCast]
theorem add_is {t : Fo} (h : t.WF) (hlt : t.len < t.size) {o : Option Nat} (ho : ∀ q, o = some q → t.there q = true) : t.addE (oI o) = 0 ∧ t.addN (oI o) = ((t.free.headD 0 : Nat) : Int) ∧ t.add (oI o) = t.addAt o (t.free.headD 0) t.free.tail := by
  have hE : t.addE (oI o) = 0 := by
    unfold Fo.addE
    rw [if_neg, if_neg]
    · intro e
      have := Fo.free_cons h hlt
      rw [e] at this
      cases this
    · rintro ⟨h1, h2⟩
      cases o with
      | none => have h1 : (0 : Int) ≤ -1 := h1; omega
      | some q => rw [show oI (some q) = (q : Nat) from rfl, t.has_nat, ho q rfl] at h2; cases h2
  refine ⟨hE, ?_, ?_⟩
  · unfold Fo.addN; rw [if_pos hE]
  · unfold Fo.add; rw [if_pos hE, optI_oI]
set_option maxHeartbeats 3200000 in
set_option maxRecDepth 100000 in
theorem put_any (h : SpAt w a S s) (hlt : s.t.len < s.t.size) {o : Option Nat} (ho : ∀ q, o = some q → s.t.there q = true) {p : Pt} (hs : s.slot p = true) (hf : s.f p = none) {cp : Cp} (hcp : cp.ok)
    (ha : ∀ q, o = some q → amongP cp.rts (s.hd q).cap.rts = true) :
    Calls Try.prog 70 #[ptr a, .int .i64 (oI o), p.val, cp.val] w fun e w' => e = .returned (.tuple #[]) ∧ STurns a S (s.add o p cp) w w' := by
  have htw := h.twf
  have hwf := h.wf
  obtain ⟨c, hR, hS, _⟩ := h
  obtain ⟨hE, hN, hA⟩ := add_is htw hlt ho
  have hwf' := hwf.add htw hlt ho hs hf hcp ha
  have hpo := Sp.slot_ok hwf.gs.2 hwf.slots.2 hs
  have hal : s.t.free.headD 0 < s.H.length := by
    rw [hwf.len]
    exact ((htw.frees.2 _).1 (by rw [Fo.free_cons htw hlt]; simp)).1
  have hlen : (s.t.addAt o (s.t.free.headD 0) s.t.free.tail).len = s.t.len + 1 := Fo.len_add htw (Fo.free_cons htw hlt) ho
  obtain ⟨ht, St, hh, hSt, haS, hSS, hfin⟩ := hR.tree
  have hW0 : Chg [] w ((w.alloc (.cells #[.int .i64 p.g, .int .i64 p.s] 94)).alloc (.cells cp.arr 39)) := ((Chg.refl _ _).alloc _).alloc _
  obtain ⟨c2, la, hT⟩ := hh _ hW0
  have HA := cadd_any hT hS (oI o)
  rw [hE, hN, hA] at HA
  obtain ⟨n, hn⟩ : ∃ n, n = s.t.free.headD 0 := ⟨_, rfl⟩
  have HSA := Lib.hid (show s.add o p cp = { s with t := s.t.addAt o n s.t.free.tail, f := set' s.f p n, H := s.H.set n ⟨p, cp⟩ } by rw [hn]; rfl)
  have hSd := hwf.size.2
  have hHl := hwf.len
  have hm6 : s.t.len ≤ 100000 := by omega
  have HFIN := Lib.hid (fun w1 c' (hS' : Sim c' (s.t.addAt o n s.t.free.tail)) (hT' : Turns ht St c' ((w.alloc (.cells #[.int .i64 p.g, .int .i64 p.s] 94)).alloc (.cells cp.arr 39)) w1) => by
    obtain ⟨St', t1, t2, t3⟩ := hT'
    obtain ⟨S', r1, r2, r3, _⟩ := hfin _ w1 c' St' hW0 t1 t2 t3
    have hst := stand_raw r1 (n := n) (by rw [hn]; exact hal) (by omega) hm6 hpo cp
    rw [if_neg (by rw [hf]; simp)] at hst
    exact (⟨S', hst, r2, r3⟩ : ∃ S', Calls Try.prog 67 #[ptr a, .int .i64 (n : Nat), p.val, cp.val] w1 (fun e w' => e = .returned (.tuple #[]) ∧ Raw w' a S' s.gs s.slots c' (s.t.len + 1) (set' s.f p n) (s.H.set n ⟨p, cp⟩) ∧ Chg S' w1 w') ∧ (∀ k ∈ S', k ∈ S ∨ w.heap.size ≤ k) ∧ Chg S w w1))
  have HWF := Lib.hid hwf'
  have HLN := Lib.hid hlen
  rw [← hn] at HA HLN
  have HB := Lib.hid (fun w1 c' (hT' : Turns ht St c' ((w.alloc (.cells #[.int .i64 p.g, .int .i64 p.s] 94)).alloc (.cells cp.arr 39)) w1) => by
    obtain ⟨St', t1, t2, t3⟩ := hT'
    have b1 : Blk w1 w.heap.size 94 #[.int .i64 p.g, .int .i64 p.s] := ((Blk.new w 94 _).alloc _).chg t3 (fun hk => by have := hSt _ hk; omega)
    have b2 : Blk w1 (w.heap.size + 1) 39 cp.arr := by
      have := Blk.new (w.alloc (.cells #[.int .i64 p.g, .int .i64 p.s] 94)) 39 cp.arr
      rw [show (w.alloc (.cells #[.int .i64 p.g, .int .i64 p.s] 94)).heap.size = w.heap.size + 1 by simp] at this
      exact this.chg t3 (fun hk => by have := hSt _ hk; omega)
    exact (⟨b1, b2⟩ : Blk w1 w.heap.size 94 #[.int .i64 p.g, .int .i64 p.s] ∧ Blk w1 (w.heap.size + 1) 39 cp.arr))
  obtain ⟨oi, hoi⟩ : ∃ oi, oi = oI o := ⟨_, rfl⟩
  rw [← hoi] at HA ⊢
  clear hR hS hE hN hA hwf' hal hlen hfin hh hT hn hoi htw hwf hf hlt ho ha hSt haS hSS hW0 hHl hSd hm6
  go_enter Try.func70, Try.ntmps70
  go_wp2_with (first
    | (go_at_call 93; refine HA.mono ?_; rintro e w1 ⟨rfl, c', hS', hT'⟩; obtain ⟨b1, b2⟩ := HB.out w1 c' hT'; obtain ⟨S', hst, r2, r3⟩ := HFIN.out w1 c' hS' hT'; have x0 := b1.cell 0; have x1 := b1.cell 1; have y0 := b2.cell 0; have y1 := b2.cell 1; have y2 := b2.cell 2; have y3 := b2.cell 3; have lb1 := b1.lt; have lb2 := b2.lt; simp only [List.getElem?_toArray, List.getElem?_cons_succ, List.getElem?_cons_zero] at x0 x1 y0 y1 y2 y3; have HST := Lib.hid hst; have HR2 := Lib.hid r2; have HR3 := Lib.hid r3; have HS' := Lib.hid hS'; clear hT' b1 b2 hst r2 r3 hS')
    | (go_at_call 67; refine HST.out.mono ?_; rintro e w2 ⟨rfl, hraw, hc⟩; have HRW := Lib.hid hraw; have HC := Lib.hid hc; clear hraw hc))
  go_end0
  refine ⟨rfl, S', ?_, HR2.out, HR3.out.trans HC.out HR2.out⟩
  refine ⟨c', ?_, ?_, HWF.out⟩
  · rw [HSA.out]
    show Raw w2 a S' s.gs s.slots c' (s.t.addAt o n s.t.free.tail).len _ _
    rw [HLN.out]
    exact HRW.out
  · rw [HSA.out]
    exact HS'.out
end
end Go.Proofs
end
section
namespace Go.Proofs
open Go.RowKit
set_option linter.unusedVariables false
set_option linter.unusedSimpArgs false

/-! ### What a call answers, and leaves -/
theorem firstB_all : ∀ {L : List (Int × Bool)}, (∀ x ∈ L, x.1 ≠ 0) → firstB L = 0 → ∀ x ∈ L, x.2 = true
  | [], _, _ => by simp
  | a :: L, h1, h2 => by
    unfold firstB at h2
    cases hb : a.2 with
    | false => rw [hb] at h2; exact absurd h2 (h1 a (by simp))
    | true =>
      rw [hb, if_pos rfl] at h2
      intro x hx
      rcases List.mem_cons.1 hx with rfl | hx
      · exact hb
      · exact firstB_all (fun y hy => h1 y (by simp [hy])) h2 x hx
def Sp.rootE (s : Sp) (p : Pt) (c : Cp) : Int := firstB [(9, s.slot p), (14, !(s.f p).isSome), (2, mayB c), (3, decide (s.t.len < s.t.size))]
def Sp.deriveE (s : Sp) (p q : Pt) (c : Cp) : Int := firstB [(9, s.slot p), (10, (s.f p).isSome), (9, s.slot q), (14, !(s.f q).isSome), (2, mayB c), (13, s.amongB p c.rts), (3, decide (s.t.len < s.t.size))]
def Sp.fullE (s : Sp) (p : Pt) : Int := firstB [(9, s.slot p), (10, (s.f p).isSome)]
def Sp.moveE (s : Sp) (p q : Pt) : Int := firstB [(9, s.slot p), (10, (s.f p).isSome), (9, s.slot q), (14, !(s.f q).isSome)]
theorem Sp.root0 {s : Sp} {p : Pt} {c : Cp} (h : s.rootE p c = 0) : s.slot p = true ∧ s.f p = none ∧ mayB c = true ∧ s.t.len < s.t.size := by
  have := firstB_all (L := [(9, s.slot p), (14, !(s.f p).isSome), (2, mayB c), (3, decide (s.t.len < s.t.size))]) (by simp) h
  simp at this
  exact this
theorem Sp.full0 {s : Sp} {p : Pt} (h : s.fullE p = 0) : s.slot p = true ∧ ∃ n, s.f p = some n := by
  have := firstB_all (L := [(9, s.slot p), (10, (s.f p).isSome)]) (by simp) h
  simp at this
  exact ⟨this.1, Option.isSome_iff_exists.1 this.2⟩
theorem Sp.move0 {s : Sp} {p q : Pt} (h : s.moveE p q = 0) : s.slot p = true ∧ (∃ n, s.f p = some n) ∧ s.slot q = true ∧ s.f q = none := by
  have := firstB_all (L := [(9, s.slot p), (10, (s.f p).isSome), (9, s.slot q), (14, !(s.f q).isSome)]) (by simp) h
  simp at this
  exact ⟨this.1, Option.isSome_iff_exists.1 this.2.1, this.2.2.1, this.2.2.2⟩
theorem Sp.derive0 {s : Sp} {p q : Pt} {c : Cp} (h : s.deriveE p q c = 0) : s.slot p = true ∧ (∃ n, s.f p = some n ∧ amongP c.rts (s.hd n).cap.rts = true) ∧ s.slot q = true ∧ s.f q = none ∧ mayB c = true ∧ s.t.len < s.t.size := by
  have := firstB_all (L := [(9, s.slot p), (10, (s.f p).isSome), (9, s.slot q), (14, !(s.f q).isSome), (2, mayB c), (13, s.amongB p c.rts), (3, decide (s.t.len < s.t.size))]) (by simp) h
  simp at this
  obtain ⟨h1, h2, h3, h4, h5, h6, h7⟩ := this
  obtain ⟨n, hn⟩ := Option.isSome_iff_exists.1 h2
  refine ⟨h1, ⟨n, hn, ?_⟩, h3, h4, h5, h7⟩
  unfold Sp.amongB at h6
  rw [hn] at h6
  exact h6
section
variable {w : World} {a : Nat} {S : List Nat} {s : Sp}
theorem Blk.two {w : World} {b : Nat} {p : Pt} (h : Blk w b 94 #[.int .i64 p.g, .int .i64 p.s]) : w.cell? ⟨b, 0, none⟩ = some (.int .i64 p.g) ∧ w.cell? ⟨b, 1, none⟩ = some (.int .i64 p.s) := ⟨h.cell 0, h.cell 1⟩
theorem Blk.four {w : World} {b : Nat} {c : Cp} (h : Blk w b 39 c.arr) : w.cell? ⟨b, 0, none⟩ = some (.int .i64 c.kind) ∧ w.cell? ⟨b, 1, none⟩ = some (.int .i64 c.idx) ∧ w.cell? ⟨b, 2, none⟩ = some (.int .u64 c.gen) ∧ w.cell? ⟨b, 3, none⟩ = some (.int .u8 c.rts) := ⟨h.cell 0, h.cell 1, h.cell 2, h.cell 3⟩
set_option maxHeartbeats 3200000 in
set_option maxRecDepth 100000 in
theorem root_ok (h : SpAt w a S s) {p : Pt} {c : Cp} (hc : c.ok) (hz : s.rootE p c = 0) : Calls Try.prog 29 #[ptr a, .int .i64 p.g, .int .i64 p.s, c.val] w fun e w' => e = .returned (.int .i64 0) ∧ STurns a S (s.add none p c) w w' := by
  obtain ⟨z1, z2, z3, z4⟩ := Sp.root0 hz
  have HPUT := Lib.hid (fun W (hq : Chg [] w W) => put_any (h.quiet hq) z4 (o := none) (fun _ e => by cases e) z1 z2 hc (fun _ e => by cases e))
  have H1 := Lib.hid (fun W (hc : Chg [] w W) => there_any (h.quiet hc).non)
  have H2 := Lib.hid (fun W (hc : Chg [] w W) => whas_any (h.quiet hc) p)
  have H3 := Lib.hid (fun W (hc : Chg [] w W) => wempty_any (h.quiet hc) p)
  have H4 := Lib.hid (fun W (hc : Chg [] w W) => wmay_any c W)
  have H5 := Lib.hid (fun W (hc : Chg [] w W) => wroom_any (h.quiet hc))
  have HK := Lib.hid (show ∀ W, Chg [] ((w.alloc (.cells c.arr 39)).alloc (.cells #[.int .i64 p.g, .int .i64 p.s] 94)) W → W.cell? ⟨w.heap.size, 0, none⟩ = some (.int .i64 c.kind) ∧ W.cell? ⟨w.heap.size, 1, none⟩ = some (.int .i64 c.idx) ∧ W.cell? ⟨w.heap.size, 2, none⟩ = some (.int .u64 c.gen) ∧ W.cell? ⟨w.heap.size, 3, none⟩ = some (.int .u8 (c.rts : Nat)) ∧ W.cell? ⟨w.heap.size + 1, 0, none⟩ = some (.int .i64 p.g) ∧ W.cell? ⟨w.heap.size + 1, 1, none⟩ = some (.int .i64 p.s) from fun W hc => by
    have r0 := ((((by have := Blk.new w 39 c.arr; simpa using this : Blk (w.alloc (.cells c.arr 39)) (w.heap.size) 39 c.arr).alloc _)).quiet hc).four
    have r1 := (((by have := Blk.new (w.alloc (.cells c.arr 39)) 94 #[.int .i64 p.g, .int .i64 p.s]; simpa using this : Blk ((w.alloc (.cells c.arr 39)).alloc (.cells #[.int .i64 p.g, .int .i64 p.s] 94)) (w.heap.size + 1) 94 #[.int .i64 p.g, .int .i64 p.s])).quiet hc).two
    exact ⟨r0.1, r0.2.1, r0.2.2.1, r0.2.2.2, r1.1, r1.2⟩)
  have HW0 := Lib.hid (show Chg [] w ((w.alloc (.cells c.arr 39)).alloc (.cells #[.int .i64 p.g, .int .i64 p.s] 94)) from (((Chg.refl _ _).alloc _).alloc _))
  have HZ := Lib.hid hz
  clear h hz z1 z2 z3 z4 hc
  go_enter Try.func29, Try.ntmps29
  go_wp2
  go_region_held3 (fun w' => w'.cell? ⟨w.heap.size, 0, none⟩ = some (.int .i64 c.kind) ∧ w'.cell? ⟨w.heap.size, 1, none⟩ = some (.int .i64 c.idx) ∧ w'.cell? ⟨w.heap.size, 2, none⟩ = some (.int .u64 c.gen) ∧ w'.cell? ⟨w.heap.size, 3, none⟩ = some (.int .u8 (c.rts : Nat)) ∧ w'.cell? ⟨w.heap.size + 1, 0, none⟩ = some (.int .i64 p.g) ∧ w'.cell? ⟨w.heap.size + 1, 1, none⟩ = some (.int .i64 p.s))
    (first | go_keep)
    (first
      | (go_at_call 55; refine (H1.out _ HW0.out.drew).mono ?_; rintro e w1 ⟨F1, rfl, hc, hF⟩; have HC1 := Lib.hid (((Chg.refl _ _).drew).then hc : Chg [] ((w.alloc (.cells c.arr 39)).alloc (.cells #[.int .i64 p.g, .int .i64 p.s] 94)) w1); have HF1 := Lib.hid hF; have HD1 := Lib.hid hc; obtain ⟨k1_0, k1_1, k1_2, k1_3, k1_4, k1_5⟩ := HK.out _ HC1.out; clear hc hF)
      | (go_at_call 56; refine (H2.out _ (HW0.out.then HC1.out)).mono ?_; rintro e w2 ⟨F2, rfl, hc, hF⟩; have HC2 := Lib.hid (HC1.out.then hc); have HF2 := Lib.hid hF; have HD2 := Lib.hid hc; obtain ⟨k2_0, k2_1, k2_2, k2_3, k2_4, k2_5⟩ := HK.out _ HC2.out; clear hc hF)
      | (go_at_call 66; refine (H3.out _ (HW0.out.then HC2.out)).mono ?_; rintro e w3 ⟨F3, rfl, hc, hF⟩; have HC3 := Lib.hid (HC2.out.then hc); have HF3 := Lib.hid hF; have HD3 := Lib.hid hc; obtain ⟨k3_0, k3_1, k3_2, k3_3, k3_4, k3_5⟩ := HK.out _ HC3.out; clear hc hF)
      | (go_at_call 68; refine (H4.out _ (HW0.out.then HC3.out)).mono ?_; rintro e w4 ⟨F4, rfl, hc, hF⟩; have HC4 := Lib.hid (HC3.out.then hc); have HF4 := Lib.hid hF; have HD4 := Lib.hid hc; obtain ⟨k4_0, k4_1, k4_2, k4_3, k4_4, k4_5⟩ := HK.out _ HC4.out; clear hc hF)
      | (go_at_call 69; refine (H5.out _ (HW0.out.then HC4.out)).mono ?_; rintro e w5 ⟨F5, rfl, hc, hF⟩; have HC5 := Lib.hid (HC4.out.then hc); have HF5 := Lib.hid hF; have HD5 := Lib.hid hc; obtain ⟨k5_0, k5_1, k5_2, k5_3, k5_4, k5_5⟩ := HK.out _ HC5.out; clear hc hF)
      | (go_at_call 54; refine (refuse [(1, F1, true), (9, F2, s.slot p), (14, F3, !(s.f p).isSome), (2, F4, mayB c), (3, F5, decide (s.t.len < s.t.size))] (n := 5) rfl (by decide) rfl ⟨(HF1.out trivial).quiet (((HD2.out.then HD3.out).then HD4.out).then HD5.out), fun b0 => ⟨(HF2.out trivial).quiet ((HD3.out.then HD4.out).then HD5.out), fun b1 => ⟨(HF3.out b1).quiet (HD4.out.then HD5.out), fun b2 => ⟨(HF4.out trivial).quiet HD5.out, fun b3 => ⟨HF5.out trivial, fun b4 => trivial⟩⟩⟩⟩⟩).mono ?_; rintro e w6 ⟨he, hc⟩; replace he := he.trans (show _ = Ending.returned (.int .i64 0) by rw [← HZ.out]; rfl); subst he; have HC6 := Lib.hid (HC5.out.then hc); obtain ⟨k6_0, k6_1, k6_2, k6_3, k6_4, k6_5⟩ := HK.out _ HC6.out; clear hc))
  all_goals
    go_wp2_with (go_at_call 70; refine (HPUT.out _ (HW0.out.then HC6.out)).mono ?_; rintro e wz ⟨rfl, hT⟩; have HT := Lib.hid (hT.earlier (HW0.out.then HC6.out)); clear hT)
    go_ret
    exact ⟨rfl, HT.out⟩
set_option maxHeartbeats 3200000 in
set_option maxRecDepth 100000 in
theorem root_no (h : SpAt w a S s) {p : Pt} {c : Cp} (hz : s.rootE p c ≠ 0) : Calls Try.prog 29 #[ptr a, .int .i64 p.g, .int .i64 p.s, c.val] w fun e w' => e = .returned (.int .i64 (s.rootE p c)) ∧ Chg [] w w' := by
  have H1 := Lib.hid (fun W (hc : Chg [] w W) => there_any (h.quiet hc).non)
  have H2 := Lib.hid (fun W (hc : Chg [] w W) => whas_any (h.quiet hc) p)
  have H3 := Lib.hid (fun W (hc : Chg [] w W) => wempty_any (h.quiet hc) p)
  have H4 := Lib.hid (fun W (hc : Chg [] w W) => wmay_any c W)
  have H5 := Lib.hid (fun W (hc : Chg [] w W) => wroom_any (h.quiet hc))
  have HK := Lib.hid (show ∀ W, Chg [] ((w.alloc (.cells c.arr 39)).alloc (.cells #[.int .i64 p.g, .int .i64 p.s] 94)) W → W.cell? ⟨w.heap.size, 0, none⟩ = some (.int .i64 c.kind) ∧ W.cell? ⟨w.heap.size, 1, none⟩ = some (.int .i64 c.idx) ∧ W.cell? ⟨w.heap.size, 2, none⟩ = some (.int .u64 c.gen) ∧ W.cell? ⟨w.heap.size, 3, none⟩ = some (.int .u8 (c.rts : Nat)) ∧ W.cell? ⟨w.heap.size + 1, 0, none⟩ = some (.int .i64 p.g) ∧ W.cell? ⟨w.heap.size + 1, 1, none⟩ = some (.int .i64 p.s) from fun W hc => by
    have r0 := ((((by have := Blk.new w 39 c.arr; simpa using this : Blk (w.alloc (.cells c.arr 39)) (w.heap.size) 39 c.arr).alloc _)).quiet hc).four
    have r1 := (((by have := Blk.new (w.alloc (.cells c.arr 39)) 94 #[.int .i64 p.g, .int .i64 p.s]; simpa using this : Blk ((w.alloc (.cells c.arr 39)).alloc (.cells #[.int .i64 p.g, .int .i64 p.s] 94)) (w.heap.size + 1) 94 #[.int .i64 p.g, .int .i64 p.s])).quiet hc).two
    exact ⟨r0.1, r0.2.1, r0.2.2.1, r0.2.2.2, r1.1, r1.2⟩)
  have HW0 := Lib.hid (show Chg [] w ((w.alloc (.cells c.arr 39)).alloc (.cells #[.int .i64 p.g, .int .i64 p.s] 94)) from (((Chg.refl _ _).alloc _).alloc _))
  obtain ⟨z, hzz⟩ : ∃ z, z = s.rootE p c := ⟨_, rfl⟩
  have HZ := Lib.hid hzz
  rw [← hzz] at hz ⊢
  have hz0 : (z == 0) = false := by simpa using hz
  clear h hz hzz
  go_enter Try.func29, Try.ntmps29
  go_wp2
  go_region_held3 (fun w' => w'.cell? ⟨w.heap.size, 0, none⟩ = some (.int .i64 c.kind) ∧ w'.cell? ⟨w.heap.size, 1, none⟩ = some (.int .i64 c.idx) ∧ w'.cell? ⟨w.heap.size, 2, none⟩ = some (.int .u64 c.gen) ∧ w'.cell? ⟨w.heap.size, 3, none⟩ = some (.int .u8 (c.rts : Nat)) ∧ w'.cell? ⟨w.heap.size + 1, 0, none⟩ = some (.int .i64 p.g) ∧ w'.cell? ⟨w.heap.size + 1, 1, none⟩ = some (.int .i64 p.s))
    (first | go_keep)
    (first
      | (go_at_call 55; refine (H1.out _ HW0.out.drew).mono ?_; rintro e w1 ⟨F1, rfl, hc, hF⟩; have HC1 := Lib.hid (((Chg.refl _ _).drew).then hc : Chg [] ((w.alloc (.cells c.arr 39)).alloc (.cells #[.int .i64 p.g, .int .i64 p.s] 94)) w1); have HF1 := Lib.hid hF; have HD1 := Lib.hid hc; obtain ⟨k1_0, k1_1, k1_2, k1_3, k1_4, k1_5⟩ := HK.out _ HC1.out; clear hc hF)
      | (go_at_call 56; refine (H2.out _ (HW0.out.then HC1.out)).mono ?_; rintro e w2 ⟨F2, rfl, hc, hF⟩; have HC2 := Lib.hid (HC1.out.then hc); have HF2 := Lib.hid hF; have HD2 := Lib.hid hc; obtain ⟨k2_0, k2_1, k2_2, k2_3, k2_4, k2_5⟩ := HK.out _ HC2.out; clear hc hF)
      | (go_at_call 66; refine (H3.out _ (HW0.out.then HC2.out)).mono ?_; rintro e w3 ⟨F3, rfl, hc, hF⟩; have HC3 := Lib.hid (HC2.out.then hc); have HF3 := Lib.hid hF; have HD3 := Lib.hid hc; obtain ⟨k3_0, k3_1, k3_2, k3_3, k3_4, k3_5⟩ := HK.out _ HC3.out; clear hc hF)
      | (go_at_call 68; refine (H4.out _ (HW0.out.then HC3.out)).mono ?_; rintro e w4 ⟨F4, rfl, hc, hF⟩; have HC4 := Lib.hid (HC3.out.then hc); have HF4 := Lib.hid hF; have HD4 := Lib.hid hc; obtain ⟨k4_0, k4_1, k4_2, k4_3, k4_4, k4_5⟩ := HK.out _ HC4.out; clear hc hF)
      | (go_at_call 69; refine (H5.out _ (HW0.out.then HC4.out)).mono ?_; rintro e w5 ⟨F5, rfl, hc, hF⟩; have HC5 := Lib.hid (HC4.out.then hc); have HF5 := Lib.hid hF; have HD5 := Lib.hid hc; obtain ⟨k5_0, k5_1, k5_2, k5_3, k5_4, k5_5⟩ := HK.out _ HC5.out; clear hc hF)
      | (go_at_call 54; refine (refuse [(1, F1, true), (9, F2, s.slot p), (14, F3, !(s.f p).isSome), (2, F4, mayB c), (3, F5, decide (s.t.len < s.t.size))] (n := 5) rfl (by decide) rfl ⟨(HF1.out trivial).quiet (((HD2.out.then HD3.out).then HD4.out).then HD5.out), fun b0 => ⟨(HF2.out trivial).quiet ((HD3.out.then HD4.out).then HD5.out), fun b1 => ⟨(HF3.out b1).quiet (HD4.out.then HD5.out), fun b2 => ⟨(HF4.out trivial).quiet HD5.out, fun b3 => ⟨HF5.out trivial, fun b4 => trivial⟩⟩⟩⟩⟩).mono ?_; rintro e w6 ⟨he, hc⟩; replace he := he.trans (show _ = Ending.returned (.int .i64 z) by rw [HZ.out]; rfl); subst he; have HC6 := Lib.hid (HC5.out.then hc); obtain ⟨k6_0, k6_1, k6_2, k6_3, k6_4, k6_5⟩ := HK.out _ HC6.out; clear hc))
  all_goals
    go_wp2
    go_ret
    exact ⟨rfl, HW0.out.then HC6.out⟩
end
end Go.Proofs
end
section
namespace Go.Proofs
open Go.RowKit
set_option linter.unusedVariables false
set_option linter.unusedSimpArgs false
section
variable {w : World} {a : Nat} {S : List Nat} {s : Sp}
/-- What there is at a place, in every world in which nothing turned. -/
theorem SpAt.place (h : SpAt w a S s) {p : Pt} {n : Nat} (hs : s.slot p = true) (hf : s.f p = some n) : ∃ ht bm g cH, (0 : Int) ≤ (n : Int) ∧ (n : Int) < (s.H.length : Int) ∧ ∀ W, Chg [] w W →
      W.cell? ⟨a, 2, none⟩ = some (ptr ht) ∧ W.cell? ⟨a, 3, none⟩ = some (.map (some bm)) ∧ W.cell? ⟨a, 4, none⟩ = some (.slice (some ⟨g, 0, none⟩) s.H.length cH) ∧ a < W.heap.size ∧ g < W.heap.size ∧
      (Instr.lookup 70 (.map (some bm)) p.val false).run Try.prog W = .ok (.int .i64 (n : Nat)) W ∧
      W.cell? ⟨g, n * 6 + 2, none⟩ = some (.int .i64 (s.hd n).cap.kind) ∧ W.cell? ⟨g, n * 6 + 3, none⟩ = some (.int .i64 (s.hd n).cap.idx) ∧ W.cell? ⟨g, n * 6 + 4, none⟩ = some (.int .u64 (s.hd n).cap.gen) ∧ W.cell? ⟨g, n * 6 + 5, none⟩ = some (.int .u8 (s.hd n).cap.rts) := by
  have hpo := Sp.slot_ok h.wf.gs.2 h.wf.slots.2 hs
  obtain ⟨c, hR, hS, hWF⟩ := h
  have hth := (hWF.back p n hf).1
  have hnl := hWF.lt hS.wf hth
  obtain ⟨ht, bm, g, cH, _, hh, _⟩ := hR.turned hnl
  refine ⟨ht, bm, g, cH, by omega, by omega, fun W hc => ?_⟩
  obtain ⟨_, _, c2, c3, c4, la, _, hM, lg, _, _, _, g2, g3, g4, g5⟩ := hh W hc
  have hlk := hM.look hpo
  rw [hf] at hlk
  exact ⟨c2, c3, c4, la, lg, hlk, g2, g3, g4, g5⟩
set_option maxHeartbeats 3200000 in
set_option maxRecDepth 100000 in
theorem get_ok (h : SpAt w a S s) {p : Pt} {n : Nat} (hz : s.slot p = true) (hf : s.f p = some n) : Calls Try.prog 18 #[ptr a, .int .i64 p.g, .int .i64 p.s] w fun e w' => e = .returned (.tuple #[(s.hd n).cap.val, .int .i64 0]) ∧ Chg [] w w' := by
  have H1 := Lib.hid (fun W (hc : Chg [] w W) => there_any (h.quiet hc).non)
  have H2 := Lib.hid (fun W (hc : Chg [] w W) => whas_any (h.quiet hc) p)
  have H3 := Lib.hid (fun W (hc : Chg [] w W) => wfilled_any (h.quiet hc) p)
  have HK := Lib.hid (show ∀ W, Chg [] ((w.alloc (.cells #[.int .i64 0, .int .i64 0, .int .u64 0, .int .u8 0] 39)).alloc (.cells #[.int .i64 p.g, .int .i64 p.s] 94)) W → W.cell? ⟨w.heap.size, 0, none⟩ = some (.int .i64 0) ∧ W.cell? ⟨w.heap.size, 1, none⟩ = some (.int .i64 0) ∧ W.cell? ⟨w.heap.size, 2, none⟩ = some (.int .u64 0) ∧ W.cell? ⟨w.heap.size, 3, none⟩ = some (.int .u8 0) ∧ W.cell? ⟨w.heap.size + 1, 0, none⟩ = some (.int .i64 p.g) ∧ W.cell? ⟨w.heap.size + 1, 1, none⟩ = some (.int .i64 p.s) from fun W hc => by
    have r0 : Blk W w.heap.size 39 #[.int .i64 0, .int .i64 0, .int .u64 0, .int .u8 0] := ((Blk.new w 39 _).alloc _).quiet hc
    have r1 := (((by have := Blk.new (w.alloc (.cells #[.int .i64 0, .int .i64 0, .int .u64 0, .int .u8 0] 39)) 94 #[.int .i64 p.g, .int .i64 p.s]; simpa using this : Blk ((w.alloc (.cells #[.int .i64 0, .int .i64 0, .int .u64 0, .int .u8 0] 39)).alloc (.cells #[.int .i64 p.g, .int .i64 p.s] 94)) (w.heap.size + 1) 94 #[.int .i64 p.g, .int .i64 p.s])).quiet hc).two
    exact ⟨r0.cell 0, r0.cell 1, r0.cell 2, r0.cell 3, r1.1, r1.2⟩)
  have HW0 := Lib.hid (show Chg [] w ((w.alloc (.cells #[.int .i64 0, .int .i64 0, .int .u64 0, .int .u8 0] 39)).alloc (.cells #[.int .i64 p.g, .int .i64 p.s] 94)) from (((Chg.refl _ _).alloc _).alloc _))
  have HZ := Lib.hid (show s.fullE p = 0 by unfold Sp.fullE; rw [hz, hf]; rfl)
  obtain ⟨ht, bm, g, cH, i0, i1, hpl⟩ := h.place hz hf
  have HPL := Lib.hid hpl
  have HBX := Lib.hid (show Blk ((w.alloc (.cells #[.int .i64 0, .int .i64 0, .int .u64 0, .int .u8 0] 39)).alloc (.cells #[.int .i64 p.g, .int .i64 p.s] 94)) w.heap.size 39 #[.int .i64 0, .int .i64 0, .int .u64 0, .int .u8 0] from (Blk.new w 39 _).alloc _)
  obtain ⟨m, hm⟩ : ∃ m, m = s.H.length := ⟨_, rfl⟩
  obtain ⟨⟨ck, ci, cg, cr⟩, hcp⟩ : ∃ cp, cp = (s.hd n).cap := ⟨_, rfl⟩
  rw [← hm] at i1 HPL
  rw [← hcp] at HPL ⊢
  clear h hz hf hpl hm hcp
  go_enter Try.func18, Try.ntmps18
  go_wp2
  go_region_held3 (fun w' => w'.cell? ⟨w.heap.size, 0, none⟩ = some (.int .i64 0) ∧ w'.cell? ⟨w.heap.size, 1, none⟩ = some (.int .i64 0) ∧ w'.cell? ⟨w.heap.size, 2, none⟩ = some (.int .u64 0) ∧ w'.cell? ⟨w.heap.size, 3, none⟩ = some (.int .u8 0) ∧ w'.cell? ⟨w.heap.size + 1, 0, none⟩ = some (.int .i64 p.g) ∧ w'.cell? ⟨w.heap.size + 1, 1, none⟩ = some (.int .i64 p.s))
    (first | go_keep)
    (first
      | (go_at_call 55; refine (H1.out _ HW0.out.drew).mono ?_; rintro e w1 ⟨F1, rfl, hc, hF⟩; have HC1 := Lib.hid (((Chg.refl _ _).drew).then hc : Chg [] ((w.alloc (.cells #[.int .i64 0, .int .i64 0, .int .u64 0, .int .u8 0] 39)).alloc (.cells #[.int .i64 p.g, .int .i64 p.s] 94)) w1); have HF1 := Lib.hid hF; have HD1 := Lib.hid hc; obtain ⟨k1_0, k1_1, k1_2, k1_3, k1_4, k1_5⟩ := HK.out _ HC1.out; clear hc hF)
      | (go_at_call 56; refine (H2.out _ (HW0.out.then HC1.out)).mono ?_; rintro e w2 ⟨F2, rfl, hc, hF⟩; have HC2 := Lib.hid (HC1.out.then hc); have HF2 := Lib.hid hF; have HD2 := Lib.hid hc; obtain ⟨k2_0, k2_1, k2_2, k2_3, k2_4, k2_5⟩ := HK.out _ HC2.out; clear hc hF)
      | (go_at_call 57; refine (H3.out _ (HW0.out.then HC2.out)).mono ?_; rintro e w3 ⟨F3, rfl, hc, hF⟩; have HC3 := Lib.hid (HC2.out.then hc); have HF3 := Lib.hid hF; have HD3 := Lib.hid hc; obtain ⟨k3_0, k3_1, k3_2, k3_3, k3_4, k3_5⟩ := HK.out _ HC3.out; clear hc hF)
      | (go_at_call 54; refine (refuse [(1, F1, true), (9, F2, s.slot p), (10, F3, (s.f p).isSome)] (n := 3) rfl (by decide) rfl ⟨(HF1.out trivial).quiet (HD2.out.then HD3.out), fun b0 => ⟨(HF2.out trivial).quiet HD3.out, fun b1 => ⟨HF3.out b1, fun b2 => trivial⟩⟩⟩).mono ?_; rintro e w4 ⟨he, hc⟩; replace he := he.trans (show _ = Ending.returned (.int .i64 0) by rw [← HZ.out]; rfl); subst he; have HC4 := Lib.hid (HC3.out.then hc); obtain ⟨k4_0, k4_1, k4_2, k4_3, k4_4, k4_5⟩ := HK.out _ HC4.out; clear hc))
  all_goals
    have hcw := HW0.out.then HC4.out
    obtain ⟨c2, c3, c4, la, lg, hlk, g2, g3, g4, g5⟩ := HPL.out _ hcw.drew
    have hbx := HBX.out.quiet HC4.out
    have f0 := hbx.frozen 0
    have f1 := hbx.frozen 1
    have f2 := hbx.frozen 2
    have f3 := hbx.frozen 3
    have lb := hbx.lt
    have hsz := HC4.out.size
    have q0 : (w4.setCell ⟨w.heap.size, 0, none⟩ (.int .i64 ck)).cell? ⟨w.heap.size, 0, none⟩ = some (.int .i64 ck) := (hbx.set_ 0 (.int .i64 ck)).cell 0
    have q1 : ((w4.setCell ⟨w.heap.size, 0, none⟩ (.int .i64 ck)).setCell ⟨w.heap.size, 1, none⟩ (.int .i64 ci)).cell? ⟨w.heap.size, 1, none⟩ = some (.int .i64 ci) := ((hbx.set_ 0 (.int .i64 ck)).set_ 1 (.int .i64 ci)).cell 1
    have q2 : (((w4.setCell ⟨w.heap.size, 0, none⟩ (.int .i64 ck)).setCell ⟨w.heap.size, 1, none⟩ (.int .i64 ci)).setCell ⟨w.heap.size, 2, none⟩ (.int .u64 cg)).cell? ⟨w.heap.size, 2, none⟩ = some (.int .u64 cg) := (((hbx.set_ 0 (.int .i64 ck)).set_ 1 (.int .i64 ci)).set_ 2 (.int .u64 cg)).cell 2
    have q3 : ((((w4.setCell ⟨w.heap.size, 0, none⟩ (.int .i64 ck)).setCell ⟨w.heap.size, 1, none⟩ (.int .i64 ci)).setCell ⟨w.heap.size, 2, none⟩ (.int .u64 cg)).setCell ⟨w.heap.size, 3, none⟩ (.int .u8 (cr : Nat))).cell? ⟨w.heap.size, 3, none⟩ = some (.int .u8 (cr : Nat)) := ((((hbx.set_ 0 (.int .i64 ck)).set_ 1 (.int .i64 ci)).set_ 2 (.int .u64 cg)).set_ 3 (.int .u8 (cr : Nat))).cell 3
    have HCW := Lib.hid hcw
    clear hbx hcw
    go_wp2
    go_region
    all_goals
      go_wp2
      refine bodyPost_ret (v := .tuple #[.agg #[.int .i64 ck, .int .i64 ci, .int .u64 cg, .int .u8 (cr : Nat)], .int .i64 0]) ?_ rfl ⟨rfl, ?_⟩
      · simp [results, Try.results18, go_sem, q0, q1, q2, q3]
      · repeat' (first | with_reducible exact HCW.out | with_reducible apply Chg.drew | with_reducible apply Chg.alloc | with_reducible apply Chg.setCell | (with_reducible refine Or.inr ?_; dsimp only; omega))
set_option maxHeartbeats 3200000 in
set_option maxRecDepth 100000 in
theorem get_no (h : SpAt w a S s) {p : Pt} (hz : s.fullE p ≠ 0) : Calls Try.prog 18 #[ptr a, .int .i64 p.g, .int .i64 p.s] w fun e w' => e = .returned (.tuple #[cp0.val, .int .i64 (s.fullE p)]) ∧ Chg [] w w' := by
  have H1 := Lib.hid (fun W (hc : Chg [] w W) => there_any (h.quiet hc).non)
  have H2 := Lib.hid (fun W (hc : Chg [] w W) => whas_any (h.quiet hc) p)
  have H3 := Lib.hid (fun W (hc : Chg [] w W) => wfilled_any (h.quiet hc) p)
  have HK := Lib.hid (show ∀ W, Chg [] ((w.alloc (.cells #[.int .i64 0, .int .i64 0, .int .u64 0, .int .u8 0] 39)).alloc (.cells #[.int .i64 p.g, .int .i64 p.s] 94)) W → W.cell? ⟨w.heap.size, 0, none⟩ = some (.int .i64 0) ∧ W.cell? ⟨w.heap.size, 1, none⟩ = some (.int .i64 0) ∧ W.cell? ⟨w.heap.size, 2, none⟩ = some (.int .u64 0) ∧ W.cell? ⟨w.heap.size, 3, none⟩ = some (.int .u8 0) ∧ W.cell? ⟨w.heap.size + 1, 0, none⟩ = some (.int .i64 p.g) ∧ W.cell? ⟨w.heap.size + 1, 1, none⟩ = some (.int .i64 p.s) from fun W hc => by
    have r0 : Blk W w.heap.size 39 #[.int .i64 0, .int .i64 0, .int .u64 0, .int .u8 0] := ((Blk.new w 39 _).alloc _).quiet hc
    have r1 := (((by have := Blk.new (w.alloc (.cells #[.int .i64 0, .int .i64 0, .int .u64 0, .int .u8 0] 39)) 94 #[.int .i64 p.g, .int .i64 p.s]; simpa using this : Blk ((w.alloc (.cells #[.int .i64 0, .int .i64 0, .int .u64 0, .int .u8 0] 39)).alloc (.cells #[.int .i64 p.g, .int .i64 p.s] 94)) (w.heap.size + 1) 94 #[.int .i64 p.g, .int .i64 p.s])).quiet hc).two
    exact ⟨r0.cell 0, r0.cell 1, r0.cell 2, r0.cell 3, r1.1, r1.2⟩)
  have HW0 := Lib.hid (show Chg [] w ((w.alloc (.cells #[.int .i64 0, .int .i64 0, .int .u64 0, .int .u8 0] 39)).alloc (.cells #[.int .i64 p.g, .int .i64 p.s] 94)) from (((Chg.refl _ _).alloc _).alloc _))
  have HBX := Lib.hid (show Blk ((w.alloc (.cells #[.int .i64 0, .int .i64 0, .int .u64 0, .int .u8 0] 39)).alloc (.cells #[.int .i64 p.g, .int .i64 p.s] 94)) w.heap.size 39 #[.int .i64 0, .int .i64 0, .int .u64 0, .int .u8 0] from (Blk.new w 39 _).alloc _)
  obtain ⟨z, hzz⟩ : ∃ z, z = s.fullE p := ⟨_, rfl⟩
  have HZ := Lib.hid hzz
  rw [← hzz] at hz ⊢
  have hz0 : (z != 0) = true := by simpa using hz
  clear h hz hzz
  go_enter Try.func18, Try.ntmps18
  go_wp2
  go_region_held3 (fun w' => w'.cell? ⟨w.heap.size, 0, none⟩ = some (.int .i64 0) ∧ w'.cell? ⟨w.heap.size, 1, none⟩ = some (.int .i64 0) ∧ w'.cell? ⟨w.heap.size, 2, none⟩ = some (.int .u64 0) ∧ w'.cell? ⟨w.heap.size, 3, none⟩ = some (.int .u8 0) ∧ w'.cell? ⟨w.heap.size + 1, 0, none⟩ = some (.int .i64 p.g) ∧ w'.cell? ⟨w.heap.size + 1, 1, none⟩ = some (.int .i64 p.s))
    (first | go_keep)
    (first
      | (go_at_call 55; refine (H1.out _ HW0.out.drew).mono ?_; rintro e w1 ⟨F1, rfl, hc, hF⟩; have HC1 := Lib.hid (((Chg.refl _ _).drew).then hc : Chg [] ((w.alloc (.cells #[.int .i64 0, .int .i64 0, .int .u64 0, .int .u8 0] 39)).alloc (.cells #[.int .i64 p.g, .int .i64 p.s] 94)) w1); have HF1 := Lib.hid hF; have HD1 := Lib.hid hc; obtain ⟨k1_0, k1_1, k1_2, k1_3, k1_4, k1_5⟩ := HK.out _ HC1.out; clear hc hF)
      | (go_at_call 56; refine (H2.out _ (HW0.out.then HC1.out)).mono ?_; rintro e w2 ⟨F2, rfl, hc, hF⟩; have HC2 := Lib.hid (HC1.out.then hc); have HF2 := Lib.hid hF; have HD2 := Lib.hid hc; obtain ⟨k2_0, k2_1, k2_2, k2_3, k2_4, k2_5⟩ := HK.out _ HC2.out; clear hc hF)
      | (go_at_call 57; refine (H3.out _ (HW0.out.then HC2.out)).mono ?_; rintro e w3 ⟨F3, rfl, hc, hF⟩; have HC3 := Lib.hid (HC2.out.then hc); have HF3 := Lib.hid hF; have HD3 := Lib.hid hc; obtain ⟨k3_0, k3_1, k3_2, k3_3, k3_4, k3_5⟩ := HK.out _ HC3.out; clear hc hF)
      | (go_at_call 54; refine (refuse [(1, F1, true), (9, F2, s.slot p), (10, F3, (s.f p).isSome)] (n := 3) rfl (by decide) rfl ⟨(HF1.out trivial).quiet (HD2.out.then HD3.out), fun b0 => ⟨(HF2.out trivial).quiet HD3.out, fun b1 => ⟨HF3.out b1, fun b2 => trivial⟩⟩⟩).mono ?_; rintro e w4 ⟨he, hc⟩; replace he := he.trans (show _ = Ending.returned (.int .i64 z) by rw [HZ.out]; rfl); subst he; have HC4 := Lib.hid (HC3.out.then hc); obtain ⟨k4_0, k4_1, k4_2, k4_3, k4_4, k4_5⟩ := HK.out _ HC4.out; clear hc))
  all_goals
    have hbx := HBX.out.quiet HC4.out
    have f0 := hbx.frozen 0
    have f1 := hbx.frozen 1
    have f2 := hbx.frozen 2
    have f3 := hbx.frozen 3
    have lb := hbx.lt
    have q0 : (w4.setCell ⟨w.heap.size, 0, none⟩ (.int .i64 0)).cell? ⟨w.heap.size, 0, none⟩ = some (.int .i64 0) := (hbx.set_ 0 (.int .i64 0)).cell 0
    have q1 : ((w4.setCell ⟨w.heap.size, 0, none⟩ (.int .i64 0)).setCell ⟨w.heap.size, 1, none⟩ (.int .i64 0)).cell? ⟨w.heap.size, 1, none⟩ = some (.int .i64 0) := ((hbx.set_ 0 (.int .i64 0)).set_ 1 (.int .i64 0)).cell 1
    have q2 : (((w4.setCell ⟨w.heap.size, 0, none⟩ (.int .i64 0)).setCell ⟨w.heap.size, 1, none⟩ (.int .i64 0)).setCell ⟨w.heap.size, 2, none⟩ (.int .u64 0)).cell? ⟨w.heap.size, 2, none⟩ = some (.int .u64 0) := (((hbx.set_ 0 (.int .i64 0)).set_ 1 (.int .i64 0)).set_ 2 (.int .u64 0)).cell 2
    have q3 : ((((w4.setCell ⟨w.heap.size, 0, none⟩ (.int .i64 0)).setCell ⟨w.heap.size, 1, none⟩ (.int .i64 0)).setCell ⟨w.heap.size, 2, none⟩ (.int .u64 0)).setCell ⟨w.heap.size, 3, none⟩ (.int .u8 0)).cell? ⟨w.heap.size, 3, none⟩ = some (.int .u8 0) := ((((hbx.set_ 0 (.int .i64 0)).set_ 1 (.int .i64 0)).set_ 2 (.int .u64 0)).set_ 3 (.int .u8 0)).cell 3
    have HCW := Lib.hid (HW0.out.then HC4.out)
    clear hbx
    go_wp2
    refine bodyPost_ret (v := .tuple #[cp0.val, .int .i64 z]) ?_ rfl ⟨rfl, ?_⟩
    · simp [results, Try.results18, go_sem, cp0, q0, q1, q2, q3]
    · repeat' (first | with_reducible exact HCW.out | with_reducible apply Chg.drew | with_reducible apply Chg.alloc | with_reducible apply Chg.setCell | (with_reducible refine Or.inr ?_; dsimp only; omega))
end
end Go.Proofs
end
