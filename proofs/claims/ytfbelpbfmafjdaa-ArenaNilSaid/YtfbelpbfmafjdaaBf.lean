import Derived.Test.YtfbelpbfmafjdaaBe
namespace Go.Proofs
open Go.RowKit
set_option linter.unusedVariables false

/-- A zero table. -/
def ZeroAt (w : World) (g : Nat) : Prop := Blk w g 66 #[.int .i64 0, .int .u64 0, .slice none 0 0, .slice none 0 0, .int .i64 0]
/-- No table, or a zero one. -/
def NoTab (w : World) (v : Value) : Prop := v = .pointer none ∨ ∃ g, v = .pointer (some ⟨g, 0, none⟩) ∧ ZeroAt w g
theorem ZeroAt.alloc {w : World} {g : Nat} (h : ZeroAt w g) (o : Obj) : ZeroAt (w.alloc o) g := Blk.alloc h o
theorem NoTab.alloc {w : World} {v : Value} (h : NoTab w v) (o : Obj) : NoTab (w.alloc o) v := h.imp id fun ⟨g, h1, h2⟩ => ⟨g, h1, h2.alloc o⟩

theorem NoTab.drewN {w : World} {v : Value} (h : NoTab w v) (n : Nat) : NoTab (w.drewN n) v := h
theorem NoTab.chg {w w' : World} {v : Value} (h : NoTab w v) (hc : Chg [] w w') : NoTab w' v := h.imp id fun ⟨g, h1, h2⟩ => ⟨g, h1, Blk.chg h2 hc (by simp)⟩

theorem size_no {w : World} {v : Value} (h : NoTab w v) : Calls Try.prog 27 #[v] w fun e w' => e = .returned (.int .i64 0) ∧ w = w' := by
  rcases h with rfl | ⟨g, rfl, h⟩
  · exact nil_I w
  · have c0 := h.cell 0
    go_enter Try.func27, Try.ntmps27
    go_wp2
    go_ret
    exact ⟨rfl, rfl⟩
theorem free_no {w : World} {v : Value} (h : NoTab w v) : Calls Try.prog 26 #[v] w fun e w' => e = .returned (.int .i64 0) ∧ ∃ n, w' = w.drewN n := by
  rcases h with rfl | ⟨g, rfl, h⟩
  · go_enter Try.func26, Try.ntmps26
    go_wp2
    go_ret
    exact ⟨rfl, 0, rfl⟩
  · have c0 := h.cell 0
    have c2 := h.cell 2
    have c3 := h.cell 3
    go_enter Try.func26, Try.ntmps26
    go_wp2
    go_quiet (fail)
    go_wp2
    go_ret
    exact ⟨rfl, _, rfl⟩
theorem retired_no {w : World} {v : Value} (h : NoTab w v) : Calls Try.prog 24 #[v] w fun e w' => e = .returned (.int .i64 0) ∧ w = w' := by
  rcases h with rfl | ⟨g, rfl, h⟩
  · go_enter Try.func24, Try.ntmps24
    go_wp2
    go_ret
    exact ⟨rfl, rfl⟩
  · have c4 := h.cell 4
    go_enter Try.func24, Try.ntmps24
    go_wp2
    go_ret
    exact ⟨rfl, rfl⟩
theorem none_no {w : World} {v : Value} (h : NoTab w v) : Calls Try.prog 37 #[v] w fun e w' => e = .returned (.bool true) ∧ w = w' := by
  have hp : ∃ p, v = .pointer p := by
    rcases h with rfl | ⟨g, rfl, h⟩
    · exact ⟨_, rfl⟩
    · exact ⟨_, rfl⟩
  obtain ⟨p, rfl⟩ := hp
  go_enter Try.func37, Try.ntmps37
  go_wp2_with (go_at_call 27; refine (size_no h).mono ?_; rintro e w' ⟨rfl, rfl⟩)
  go_ret
  exact ⟨rfl, rfl⟩
theorem put_no {w : World} {p : Option Addr} (h : NoTab w (.pointer p)) (x : Int) : Calls Try.prog 16 #[.pointer p, .int .i64 x] w fun e w' => e = .returned (.tuple #[.agg #[.int .i64 0, .int .u64 0], .int .i64 1]) ∧ Chg [] w w' := by
  go_enter Try.func16, Try.ntmps16
  go_wp2_with (go_at_call 37; refine (none_no (h.alloc _)).mono ?_; rintro e w' ⟨rfl, rfl⟩)
  exact bodyPost_ret (v := .tuple #[.agg #[.int .i64 0, .int .u64 0], .int .i64 1]) (by simp [results, Try.results16, go_sem]) rfl ⟨rfl, (Chg.refl _ _).alloc _⟩
theorem copy_no {w : World} {p : Option Addr} (h : NoTab w (.pointer p)) : Calls Try.prog 22 #[.pointer p] w fun e w' => e = .returned (.pointer none) ∧ w = w' := by
  go_enter Try.func22, Try.ntmps22
  go_wp2_with (go_at_call 37; refine (none_no h).mono ?_; rintro e w' ⟨rfl, rfl⟩)
  go_ret
  exact ⟨rfl, rfl⟩
theorem find_no {w : World} {p : Option Addr} (h : NoTab w (.pointer p)) (i q : Int) : Calls Try.prog 39 #[.pointer p, .agg #[.int .i64 i, .int .u64 q]] w fun e w' => e = .returned (.tuple #[.pointer none, .int .i64 1]) ∧ Chg [] w w' := by
  go_enter Try.func39, Try.ntmps39
  go_wp2_with (go_at_call 37; refine (none_no (h.alloc _)).mono ?_; rintro e w' ⟨rfl, rfl⟩)
  exact bodyPost_ret (v := .tuple #[.pointer none, .int .i64 1]) (by simp [results, Try.results39, go_sem]) rfl ⟨rfl, (Chg.refl _ _).alloc _⟩
theorem at_no {w : World} {p : Option Addr} (h : NoTab w (.pointer p)) (i : Int) : Calls Try.prog 21 #[.pointer p, .int .i64 i] w fun e w' => e = .returned (.tuple #[.agg #[.int .i64 0, .int .u64 0], .bool false]) ∧ Chg [] w w' := by
  go_enter Try.func21, Try.ntmps21
  go_wp2_with (go_at_call 37; refine (none_no (h.alloc _)).mono ?_; rintro e w' ⟨rfl, rfl⟩)
  exact bodyPost_ret (v := .tuple #[.agg #[.int .i64 0, .int .u64 0], .bool false]) (by simp [results, Try.results21, go_sem]) rfl ⟨rfl, (Chg.refl _ _).alloc _⟩
theorem set_no {w : World} {p : Option Addr} (h : NoTab w (.pointer p)) (i q x : Int) : Calls Try.prog 18 #[.pointer p, .agg #[.int .i64 i, .int .u64 q], .int .i64 x] w fun e w' => e = .returned (.int .i64 1) ∧ Chg [] w w' := by
  go_enter Try.func18, Try.ntmps18
  go_wp2_with (go_at_call 39; refine (find_no (h.alloc _) _ _).mono ?_; rintro e w' ⟨rfl, hc⟩; have HC := Lib.hid hc; clear hc)
  go_ret
  exact ⟨rfl, ((Chg.refl _ _).alloc _).then HC.out⟩
theorem len_no {w : World} {v : Value} (h : NoTab w v) : Calls Try.prog 25 #[v] w fun e w' => e = .returned (.int .i64 0) ∧ ∃ n, w' = w.drewN n := by
  have hp : ∃ p, v = .pointer p := by
    rcases h with rfl | ⟨g, rfl, h⟩
    · exact ⟨_, rfl⟩
    · exact ⟨_, rfl⟩
  obtain ⟨p, rfl⟩ := hp
  go_enter Try.func25, Try.ntmps25
  go_wp2_with (first
    | (go_at_call 27; refine (size_no h).mono ?_; rintro e w' ⟨rfl, rfl⟩)
    | (go_at_call 26; refine (free_no h).mono ?_; rintro e w' ⟨rfl, nq, rfl⟩)
    | (go_at_call 24; refine (retired_no (h.drewN _)).mono ?_; rintro e w' ⟨rfl, rfl⟩))
  go_ret
  exact ⟨rfl, _, rfl⟩
theorem drop_no {w : World} {p : Option Addr} (h : NoTab w (.pointer p)) (i q : Int) : Calls Try.prog 19 #[.pointer p, .agg #[.int .i64 i, .int .u64 q]] w fun e w' => e = .returned (.int .i64 1) ∧ Chg [] w w' := by
  go_enter Try.func19, Try.ntmps19
  go_wp2_with (go_at_call 39; refine (find_no (h.alloc _) _ _).mono ?_; rintro e w' ⟨rfl, hc⟩; have HC := Lib.hid hc; clear hc)
  go_ret
  exact ⟨rfl, ((Chg.refl _ _).alloc _).then HC.out⟩
theorem get_no {w : World} {p : Option Addr} (h : NoTab w (.pointer p)) (i q : Int) : Calls Try.prog 17 #[.pointer p, .agg #[.int .i64 i, .int .u64 q]] w fun e w' => e = .returned (.tuple #[.int .i64 0, .int .i64 1]) ∧ Chg [] w w' := by
  go_enter Try.func17, Try.ntmps17
  go_wp2_with (go_at_call 39; refine (find_no (h.alloc _) _ _).mono ?_; rintro e w' ⟨rfl, hc⟩; have HC := Lib.hid hc; clear hc)
  exact bodyPost_ret (v := .tuple #[.int .i64 0, .int .i64 1]) (by simp [results, Try.results17, go_sem]) rfl ⟨rfl, ((Chg.refl _ _).alloc _).then HC.out⟩
end Go.Proofs
