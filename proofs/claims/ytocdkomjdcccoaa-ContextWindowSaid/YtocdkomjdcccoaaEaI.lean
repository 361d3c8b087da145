import Derived.Test.YtocdkomjdcccoaaEaG
namespace Go.Proofs
open Go.RowKit
set_option linter.unusedVariables false
theorem Rd.one43 (w : World) (b now : Int) : Rd (w.alloc (.cells #[.int .u64 b, .int .u64 now] 47)) (.slice (some ⟨w.heap.size, 0, none⟩) 1 1) [(b, now)] := (Ro.one w b now).rd
/-! ### The chapter's row -/
abbrev k0 : Tab Cx := ⟨2, 1, [], [], 0⟩
abbrev k1 (A : Option Addr) (cc : Nat) : Tab Cx := ⟨2, 1, [⟨1, true, ⟨5, 10, A, 1, cc, 0, [(5, 0)]⟩⟩], [], 0⟩
abbrev k2 (A : Option Addr) (m cc : Nat) (A2 : Option Addr) (c2 : Nat) : Tab Cx := ⟨2, 1, [⟨1, true, ⟨3, 10, A, m, cc, 0, [(3, 0)]⟩⟩, ⟨1, true, ⟨2, 10, A2, 1, c2, 0, [(2, 1)]⟩⟩], [], 0⟩
theorem kn1 : makeE k0 5 10 0 = 0 := by decide
theorem kn2 (A : Option Addr) (cc : Nat) : k0.put cx0 ⟨5, 10, A, 1, cc, 0, [(5, 0)]⟩ = k1 A cc := rfl
theorem kn3 (A : Option Addr) (cc : Nat) : splitE (k1 A cc) 0 1 2 1 = 0 := by rfl
theorem kn4 (A A' A2 : Option Addr) (cc m cc' c2 : Nat) : (((k1 A cc).thing (0 : Int).toNat ⟨((k1 A cc).at_ 0 1).b - 2, ((k1 A cc).at_ 0 1).p, A', m, cc', ((k1 A cc).at_ 0 1).n, (pullP ((k1 A cc).at_ 0 1).l 1 2).1⟩).put cx0 ⟨2, ((k1 A cc).at_ 0 1).p, A2, 1, c2, 0, [(2, 1)]⟩) = k2 A' m cc' A2 c2 := by rfl
theorem kn5 (A : Option Addr) (cc : Nat) : (k1 A cc).at_ 0 1 = ⟨5, 10, A, 1, cc, 0, [(5, 0)]⟩ := rfl
theorem kn6 (A A2 : Option Addr) (m cc c2 : Nat) : (k2 A m cc A2 c2).at_ 0 1 = ⟨3, 10, A, m, cc, 0, [(3, 0)]⟩ ∧ (k2 A m cc A2 c2).at_ 1 1 = ⟨2, 10, A2, 1, c2, 0, [(2, 1)]⟩ ∧ staleE (k2 A m cc A2 c2) 0 1 = 0 ∧ staleE (k2 A m cc A2 c2) 1 1 = 0 := ⟨rfl, rfl, rfl, rfl⟩
/-- The calls of the chapter's row, each with all that is wanted of it. -/
theorem kn_new (w : World) : Calls Try.prog 5 #[.int .i64 2, .int .i64 4] w fun e w' => ∃ c g, e = .returned (.tuple #[.pointer (some ⟨c, 0, none⟩), .int .i64 0]) ∧ CtxAt w' c [g] k0 4 ∧ w.heap.size ≤ c ∧ w.heap.size ≤ g ∧ Chg [] w w' := New_yes w (by decide)
theorem kn_make {w : World} {c : Nat} {S : List Nat} (h : CtxAt w c S k0 4) : Calls Try.prog 6 #[ptr c, .int .u64 5, .int .u64 10, .int .u64 0] w fun e w' => ∃ A cc, e = .returned (.tuple #[.agg #[.int .i64 0, .int .u64 1], .int .i64 0]) ∧ CtxTurns c S (k1 A cc) 4 w w' := by
  refine (make_yes h 5 10 0 kn1).mono ?_
  rintro e w' ⟨A, cc, rfl, hT⟩
  exact ⟨A, cc, rfl, hT⟩
theorem kn_split {w : World} {c : Nat} {S : List Nat} {A : Option Addr} {cc : Nat} (h : CtxAt w c S (k1 A cc) 4) : Calls Try.prog 9 #[ptr c, .agg #[.int .i64 0, .int .u64 1], .int .u64 2, .int .u64 1] w fun e w' => ∃ A' m cc' A2 c2, e = .returned (.tuple #[.agg #[.int .i64 1, .int .u64 1], .int .i64 0]) ∧ CtxTurns c S (k2 A' m cc' A2 c2) 4 w w' := by
  refine (Split_yes h (i := 0) (q := 1) (am := 2) (now := 1) (by omega) (by omega) (by rw [kn5]; exact Ok.cons ⟨by decide, by decide⟩ ⟨by decide, by decide⟩ Ok.nil) (by rw [kn5]; show (1 : Nat) ≤ 100000; omega) (kn3 A cc) ⟨by decide, by decide⟩ (by rw [kn5]; show (5 : Int) < 18446744073709551616; omega)).mono ?_
  rintro e w' ⟨A', m, cc', A2, c2, rfl, hT⟩
  exact ⟨A', m, cc', A2, c2, rfl, hT⟩
theorem kn_get1 {w : World} {c : Nat} {S : List Nat} {A A2 : Option Addr} {m cc c2 : Nat} (h : CtxAt w c S (k2 A m cc A2 c2) 4) : Calls Try.prog 11 #[ptr c, .agg #[.int .i64 0, .int .u64 1]] w fun e w' => ∃ B n, e = .returned (.tuple #[.agg #[.int .u64 3, .int .u64 10, .slice B 1 n, .int .i64 0], .int .i64 0]) ∧ Rd w' (.slice B 1 n) [(3, 0)] ∧ Chg [] w w' := by
  refine (Get_any h (i := 0) (q := 1) (by omega) (by omega) (by rw [(kn6 A A2 m cc c2).1]; show (1 : Nat) ≤ 100000; omega)).mono ?_
  rintro e w' ⟨B, n, rfl, ho⟩
  exact ⟨B, n, rfl, ho.rd, ho.2.2⟩
theorem kn_get2 {w : World} {c : Nat} {S : List Nat} {A A2 : Option Addr} {m cc c2 : Nat} (h : CtxAt w c S (k2 A m cc A2 c2) 4) : Calls Try.prog 11 #[ptr c, .agg #[.int .i64 1, .int .u64 1]] w fun e w' => ∃ B n, e = .returned (.tuple #[.agg #[.int .u64 2, .int .u64 10, .slice B 1 n, .int .i64 0], .int .i64 0]) ∧ Rd w' (.slice B 1 n) [(2, 1)] ∧ Chg [] w w' := by
  refine (Get_any h (i := 1) (q := 1) (by omega) (by omega) (by rw [(kn6 A A2 m cc c2).2.1]; show (1 : Nat) ≤ 100000; omega)).mono ?_
  rintro e w' ⟨B, n, rfl, ho⟩
  exact ⟨B, n, rfl, ho.rd, ho.2.2⟩
theorem kn_same {w : World} {B : Option Addr} {n g : Nat} {b am at_ : Int} (h : Rd w (.slice B 1 n) [(am, at_)]) (hg : Rd w (.slice (some ⟨g, 0, none⟩) 1 1) [(am, at_)]) : Calls Try.prog 12 #[.agg #[.int .u64 b, .int .u64 10, .slice B 1 n, .int .i64 0], .agg #[.int .u64 b, .int .u64 10, .slice (some ⟨g, 0, none⟩) 1 1, .int .i64 0]] w fun e w' => e = .returned (.bool true) ∧ Chg [] w w' := by
  refine (sameone_any (x := ⟨b, 10, B, 1, n, 0, [(am, at_)]⟩) (y := ⟨b, 10, some ⟨g, 0, none⟩, 1, 1, 0, [(am, at_)]⟩) h hg (by show (1 : Nat) ≤ 100000; omega)).mono ?_
  rintro e w' ⟨rfl, hc⟩
  exact ⟨by rw [(sameB_iff (x := ⟨b, 10, B, 1, n, 0, [(am, at_)]⟩) (y := ⟨b, 10, some ⟨g, 0, none⟩, 1, 1, 0, [(am, at_)]⟩)).2 ⟨rfl, rfl, rfl, rfl⟩], hc⟩
end Go.Proofs
