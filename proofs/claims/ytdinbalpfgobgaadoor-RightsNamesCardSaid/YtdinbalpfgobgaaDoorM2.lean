import Derived.Shelf.Strings.Builder1
import Derived.Shelf.Strings.BuilderF
import Derived.Shelf.Strings.BuilderK
import Derived.Shelf.Strings.BuilderRune
import Derived.Shelf.Utf8.AppendRune
import Derived.Shelf.Utf8.AppendRunePlain
import Derived.Shelf.Strings.BuilderCap
import Derived.Test.YtdinbalpfgobgaaDoorProg
import Derived.WalkKit
import Derived.BigCall
import Derived.Test.YtdinbalpfgobgaaDoorM1
import Derived.Maps.Own
section
/-
  DERIVED: THE SHELF's CONTRACTS AT THIS DUMP, IN PLAIN WORDS (tools/lay-plain.mjs out of 'TrydShelf.lean', which tools/lay-shelf.mjs wrote): THE SAME DECLARATIONS UNDER THE SAME NAMES: 'import', 'namespace', 'open', 'def', 'theorem' AND NOTHING ELSE: no command of the shelf's: FOR A HAND-IN. Each laying: the table of numbers ('.._ren') and one theorem, a field a fact of the dump's own or the kernel's comparison; each contract: ONE APPLICATION.
-/
namespace Go.Proofs
open Go.Shelf
def Tryd.lays169_ren : Go.Shelf.Ren := ⟨fun | 169 => 20 | n => n, fun | 70 => 52 | 9 => 9 | 0 => 0 | 72 => 55 | 37 => 53 | 127 => 63 | 3 => 3 | 5 => 5 | n => n, fun | n => n⟩
theorem Tryd.lays169 : Go.Proofs.Lays.n169 Tryd.prog Tryd.lays169_ren := {
  mixed := by kernel_rfl
  f169 := Tryd.func20.trans (congrArg some (by kernel_rfl))
  t0 := Tryd.underlying0
  a0 := Tryd.isAgg0
  z0 := Tryd.sizeOf0
  v0 := Tryd.zeroValue0
  t3 := Tryd.underlying3
  a3 := Tryd.isAgg3
  z3 := Tryd.sizeOf3
  v3 := Tryd.zeroValue3
  t9 := Tryd.underlying9
  a9 := Tryd.isAgg9
  z9 := Tryd.sizeOf9
  v9 := Tryd.zeroValue9
  t37 := Tryd.underlying53
  a37 := Tryd.isAgg53
  z37 := Tryd.sizeOf53
  v37 := Tryd.zeroValue53
  t70 := Tryd.underlying52
  a70 := Tryd.isAgg52
  z70 := Tryd.sizeOf52
  v70 := Tryd.zeroValue52
  t72 := Tryd.underlying55
  a72 := Tryd.isAgg55
  z72 := Tryd.sizeOf55
  v72 := Tryd.zeroValue55
  t127 := Tryd.underlying63
  a127 := Tryd.isAgg63
  z127 := Tryd.sizeOf63
  v127 := Tryd.zeroValue63 }
theorem Tryd.Builder_Extra_169 : Builder.Extra Tryd.prog Tryd.lays169_ren := {
  sizeBuilder := by kernel_rfl
  liesBuilder := by kernel_rfl
  t5 := Tryd.underlying5
  a5 := Tryd.isAgg5
  z5 := Tryd.sizeOf5
  v5 := Tryd.zeroValue5
  infoByte := by kernel_rfl
  cellsByte := by kernel_rfl
  sizeByte := by kernel_rfl
  neB5 := by decide }
open Go.RowKit in
/-- (*strings.Builder).String: "String returns the accumulated string.": OF A BUILDER THAT HOLDS AT LEAST ONE BYTE. ✋ THE MODEL FREEZES THOSE BYTES IN THE BUFFER (unsafe.String): a later write INTO them ends the model's run without an answer; a later append BEHIND them goes on. The statement's order of evaluation is drawn: one draw. (LAID: no walk: one application.) -/
theorem Tryd.Builder_String (B b : Nat) (l : List UInt8) (w : World) (h : Lib.IsBuilder 55 5 B b (Lib.byteCells l) w) (h0 : l ≠ []) :
    Calls Tryd.prog 20 #[.pointer (some ⟨b, 0, none⟩)] w fun e w' => e = .returned (.string ⟨l.toArray⟩) ∧ Below B w w' := Any.Builder_String Tryd.lays169 Tryd.Builder_Extra_169 B b l w h h0
open Go.RowKit in
/-- (*strings.Builder).String OF A BUILDER THAT HOLDS NO BYTE: the empty string. (Its buffer is nil, or a row of which it has taken nothing yet; where that row has NO capacity the model lays one new block for unsafe.SliceData's 'some address'.) One draw. (LAID: no walk: one application.) -/
theorem Tryd.Builder_String_empty (B b : Nat) (w : World) (h : Lib.IsBuilder 55 5 B b [] w) (hBw : B ≤ w.heap.size) :
    Calls Tryd.prog 20 #[.pointer (some ⟨b, 0, none⟩)] w fun e w' => e = .returned (.string ⟨#[]⟩) ∧ Below B w w' := Any.Builder_String_empty Tryd.lays169 Tryd.Builder_Extra_169 B b w h hBw
open Go.RowKit in
/-- (*strings.Builder).String: "String returns the accumulated string.": WHATEVER THE BUILDER HOLDS. (LAID: no walk: one application.) -/
theorem Tryd.Builder_String_any (B b : Nat) (l : List UInt8) (w : World) (h : Lib.IsBuilder 55 5 B b (Lib.byteCells l) w) (hBw : B ≤ w.heap.size) :
    Calls Tryd.prog 20 #[.pointer (some ⟨b, 0, none⟩)] w fun e w' => e = .returned (.string ⟨l.toArray⟩) ∧ Below B w w' := Any.Builder_String_any Tryd.lays169 Tryd.Builder_Extra_169 B b l w h hBw
open Go.RowKit in
/-- (*strings.Builder).String: "String returns the accumulated string.": OF A BUILDER THAT HOLDS AT LEAST ONE BYTE. ✋ THE MODEL FREEZES THOSE BYTES IN THE BUFFER (unsafe.String): a later write INTO them ends the model's run without an answer; a later append BEHIND them goes on. The statement's order of evaluation is drawn: one draw. THE FORM '_f': IT SAYS BESIDES THAT THE BUILDER IS A BUILDER STILL ('Lib.IsBuilderF', the same bytes): SO IT CAN BE WRITTEN ON: 'b.WriteString(b.String()[:k])'. (LAID: no walk: one application.) -/
theorem Tryd.Builder_String_f (B b : Nat) (l : List UInt8) (w : World) (h : Lib.IsBuilderF 55 5 B b (Lib.byteCells l) w) (h0 : l ≠ []) :
    Calls Tryd.prog 20 #[.pointer (some ⟨b, 0, none⟩)] w fun e w' => e = .returned (.string ⟨l.toArray⟩) ∧ (Lib.IsBuilderF 55 5 B b (Lib.byteCells l) w' ∧ Below B w w') := Any.Builder_String_f Tryd.lays169 Tryd.Builder_Extra_169 B b l w h h0
open Go.RowKit in
/-- (*strings.Builder).String OF A BUILDER THAT HOLDS NO BYTE: the empty string; THE FORM '_f': a builder still. (LAID: no walk: one application.) -/
theorem Tryd.Builder_String_empty_f (B b : Nat) (w : World) (h : Lib.IsBuilderF 55 5 B b [] w) (hBw : B ≤ w.heap.size) :
    Calls Tryd.prog 20 #[.pointer (some ⟨b, 0, none⟩)] w fun e w' => e = .returned (.string ⟨#[]⟩) ∧ (Lib.IsBuilderF 55 5 B b [] w' ∧ Below B w w') := Any.Builder_String_empty_f Tryd.lays169 Tryd.Builder_Extra_169 B b w h hBw
open Go.RowKit in
/-- (*strings.Builder).String: "String returns the accumulated string.": WHATEVER THE BUILDER HOLDS; THE FORM '_f': OF A BUILDER THAT MAY HAVE BEEN READ BEFORE; AND IT IS A BUILDER STILL, holding the same bytes: it can be written on. (LAID: no walk: one application.) -/
theorem Tryd.Builder_String_any_f (B b : Nat) (l : List UInt8) (w : World) (h : Lib.IsBuilderF 55 5 B b (Lib.byteCells l) w) (hBw : B ≤ w.heap.size) :
    Calls Tryd.prog 20 #[.pointer (some ⟨b, 0, none⟩)] w fun e w' => e = .returned (.string ⟨l.toArray⟩) ∧ (Lib.IsBuilderF 55 5 B b (Lib.byteCells l) w' ∧ Below B w w') := Any.Builder_String_any_f Tryd.lays169 Tryd.Builder_Extra_169 B b l w h hBw
open Go.RowKit in
/-- (*strings.Builder).String: "String returns the accumulated string.": OF A BUILDER THAT HOLDS AT LEAST ONE BYTE. ✋ THE MODEL FREEZES THOSE BYTES IN THE BUFFER (unsafe.String): a later write INTO them ends the model's run without an answer; a later append BEHIND them goes on. The statement's order of evaluation is drawn: one draw. THE FORM '_k': OVER 'Lib.IsBuilderF' (a builder that 'String()' may have read), AND WITH THE FRAME THAT REACHES ABOVE THE BUILDER: 'Lib.OthersKept': every block that is not b and is no row of uint8's stands as it stood: the iterator of a range among them. (LAID: no walk: one application.) -/
theorem Tryd.Builder_String_k (B b : Nat) (l : List UInt8) (w : World) (h : Lib.IsBuilderF 55 5 B b (Lib.byteCells l) w) (h0 : l ≠ []) :
    Calls Tryd.prog 20 #[.pointer (some ⟨b, 0, none⟩)] w fun e w' => e = .returned (.string ⟨l.toArray⟩) ∧ (Lib.IsBuilderF 55 5 B b (Lib.byteCells l) w' ∧ Below B w w' ∧ Lib.OthersKept 5 (some b) w w') := Any.Builder_String_k Tryd.lays169 Tryd.Builder_Extra_169 B b l w h h0
open Go.RowKit in
/-- (*strings.Builder).String OF A BUILDER THAT HOLDS NO BYTE: the empty string; THE FORM '_k': OVER 'Lib.IsBuilderF' (a builder that 'String()' may have read), AND WITH THE FRAME THAT REACHES ABOVE THE BUILDER: 'Lib.OthersKept': every block that is not b and is no row of uint8's stands as it stood: the iterator of a range among them. (LAID: no walk: one application.) -/
theorem Tryd.Builder_String_empty_k (B b : Nat) (w : World) (h : Lib.IsBuilderF 55 5 B b [] w) (hBw : B ≤ w.heap.size) :
    Calls Tryd.prog 20 #[.pointer (some ⟨b, 0, none⟩)] w fun e w' => e = .returned (.string ⟨#[]⟩) ∧ (Lib.IsBuilderF 55 5 B b [] w' ∧ Below B w w' ∧ Lib.OthersKept 5 (some b) w w') := Any.Builder_String_empty_k Tryd.lays169 Tryd.Builder_Extra_169 B b w h hBw
open Go.RowKit in
/-- (*strings.Builder).String: "String returns the accumulated string.": WHATEVER THE BUILDER HOLDS; THE FORM '_k': OVER 'Lib.IsBuilderF' (a builder that 'String()' may have read), AND WITH THE FRAME THAT REACHES ABOVE THE BUILDER: 'Lib.OthersKept': every block that is not b and is no row of uint8's stands as it stood: the iterator of a range among them. (LAID: no walk: one application.) -/
theorem Tryd.Builder_String_any_k (B b : Nat) (l : List UInt8) (w : World) (h : Lib.IsBuilderF 55 5 B b (Lib.byteCells l) w) (hBw : B ≤ w.heap.size) :
    Calls Tryd.prog 20 #[.pointer (some ⟨b, 0, none⟩)] w fun e w' => e = .returned (.string ⟨l.toArray⟩) ∧ (Lib.IsBuilderF 55 5 B b (Lib.byteCells l) w' ∧ Below B w w' ∧ Lib.OthersKept 5 (some b) w w') := Any.Builder_String_any_k Tryd.lays169 Tryd.Builder_Extra_169 B b l w h hBw
def Tryd.lays278_ren : Go.Shelf.Ren := ⟨fun | 278 => 24 | n => n, fun | 37 => 53 | 21 => 21 | 51 => 66 | 4 => 4 | 46 => 67 | 5 => 5 | n => n, fun | n => n⟩
theorem Tryd.lays278 : Go.Proofs.Lays.n278 Tryd.prog Tryd.lays278_ren := {
  mixed := by kernel_rfl
  f278 := Tryd.func24.trans (congrArg some (by kernel_rfl))
  t4 := Tryd.underlying4
  a4 := Tryd.isAgg4
  z4 := Tryd.sizeOf4
  v4 := Tryd.zeroValue4
  t5 := Tryd.underlying5
  a5 := Tryd.isAgg5
  z5 := Tryd.sizeOf5
  v5 := Tryd.zeroValue5
  t21 := Tryd.underlying21
  a21 := Tryd.isAgg21
  z21 := Tryd.sizeOf21
  v21 := Tryd.zeroValue21
  t37 := Tryd.underlying53
  a37 := Tryd.isAgg53
  z37 := Tryd.sizeOf53
  v37 := Tryd.zeroValue53
  t46 := Tryd.underlying67
  a46 := Tryd.isAgg67
  z46 := Tryd.sizeOf67
  v46 := Tryd.zeroValue67
  t51 := Tryd.underlying66
  a51 := Tryd.isAgg66
  z51 := Tryd.sizeOf66
  v51 := Tryd.zeroValue66 }
open Go.RowKit in
/-- unicode/utf8.appendRuneNonASCII (what AppendRune calls for all but ASCII), ONTO A ROW OF BYTES THAT THE CALL OWNS: every int32 that is no ASCII rune: 'Lib.runeCells r' goes in behind what the row holds. (LAID: no walk: one application.) -/
theorem Tryd.utf8_appendRuneNonASCII_row (B : Nat) (v : Value) (n : Nat) (xs : List Value) (r : Int) (hr0 : -2147483648 ≤ r) (hr1 : r ≤ 2147483647) (hna : r < 0 ∨ 128 ≤ r) (w : World) (hown : w.ownsRowF B 5 1 v n xs) (hlen : n + 4 ≤ 140737488355328) (hBw : B ≤ w.heap.size) :
    Calls Tryd.prog 24 #[v, .int .i32 r] w fun e w' => ∃ v', e = .returned v' ∧ w'.ownsRowF B 5 1 v' (n + (Lib.runeCells r).length) (xs ++ Lib.runeCells r) ∧ ∃ o, (w.alloc o).grownBy w' v.ownBlock := Any.utf8_appendRuneNonASCII_row Tryd.lays278 (by kernel_rfl) B v n xs r hr0 hr1 hna w hown hlen hBw
def Tryd.lays242_ren : Go.Shelf.Ren := ⟨fun | 242 => 22 | 278 => 24 | n => n, fun | 37 => 53 | 21 => 21 | 51 => 66 | 4 => 4 | 5 => 5 | 46 => 67 | n => n, fun | n => n⟩
theorem Tryd.lays242 : Go.Proofs.Lays.n242 Tryd.prog Tryd.lays242_ren := {
  mixed := by kernel_rfl
  f242 := Tryd.func22.trans (congrArg some (by kernel_rfl))
  f278 := Tryd.func24.trans (congrArg some (by kernel_rfl))
  t4 := Tryd.underlying4
  a4 := Tryd.isAgg4
  z4 := Tryd.sizeOf4
  v4 := Tryd.zeroValue4
  t5 := Tryd.underlying5
  a5 := Tryd.isAgg5
  z5 := Tryd.sizeOf5
  v5 := Tryd.zeroValue5
  t21 := Tryd.underlying21
  a21 := Tryd.isAgg21
  z21 := Tryd.sizeOf21
  v21 := Tryd.zeroValue21
  t37 := Tryd.underlying53
  a37 := Tryd.isAgg53
  z37 := Tryd.sizeOf53
  v37 := Tryd.zeroValue53
  t46 := Tryd.underlying67
  a46 := Tryd.isAgg67
  z46 := Tryd.sizeOf67
  v46 := Tryd.zeroValue67
  t51 := Tryd.underlying66
  a51 := Tryd.isAgg66
  z51 := Tryd.sizeOf66
  v51 := Tryd.zeroValue66 }
open Go.RowKit in
/-- unicode/utf8.AppendRune: "AppendRune appends the UTF-8 encoding of r to the end of p and returns the extended buffer. If the rune is out of range, it appends the encoding of RuneError.": ONTO A ROW OF BYTES THAT THE CALL OWNS (its head frozen or not): EVERY int32: 'Lib.runeCells r' goes in behind what the row holds; the world: one new block (the bytes as the call's variadic argument), then what 'append' does to the row. (LAID: no walk: one application.) -/
theorem Tryd.utf8_AppendRune_row (B : Nat) (v : Value) (n : Nat) (xs : List Value) (r : Int) (hr0 : -2147483648 ≤ r) (hr1 : r ≤ 2147483647) (w : World) (hown : w.ownsRowF B 5 1 v n xs) (hlen : n + 4 ≤ 140737488355328) (hBw : B ≤ w.heap.size) :
    Calls Tryd.prog 22 #[v, .int .i32 r] w fun e w' => ∃ v', e = .returned v' ∧ w'.ownsRowF B 5 1 v' (n + (Lib.runeCells r).length) (xs ++ Lib.runeCells r) ∧ ∃ o, (w.alloc o).grownBy w' v.ownBlock := Any.utf8_AppendRune_row Tryd.lays242 (by kernel_rfl) B v n xs r hr0 hr1 w hown hlen hBw
open Go.RowKit in
/-- unicode/utf8.appendRuneNonASCII (what AppendRune calls for all but ASCII), ONTO A ROW OF BYTES THAT THE CALL OWNS: every int32 that is no ASCII rune: 'Lib.runeCells r' goes in behind what the row holds. (LAID: no walk: one application.) -/
theorem Tryd.utf8_appendRuneNonASCII_plain (B : Nat) (v : Value) (n : Nat) (xs : List Value) (r : Int) (hr0 : -2147483648 ≤ r) (hr1 : r ≤ 2147483647) (hna : r < 0 ∨ 128 ≤ r) (w : World) (hown : w.ownsRow B 5 1 v n xs) (hlen : n + 4 ≤ 140737488355328) (hBw : B ≤ w.heap.size) :
    Calls Tryd.prog 24 #[v, .int .i32 r] w fun e w' => ∃ v', e = .returned v' ∧ w'.ownsRow B 5 1 v' (n + (Lib.runeCells r).length) (xs ++ Lib.runeCells r) ∧ ∃ o, (w.alloc o).grownBy w' v.ownBlock := Any.utf8_appendRuneNonASCII_plain Tryd.lays278 (by kernel_rfl) B v n xs r hr0 hr1 hna w hown hlen hBw
open Go.RowKit in
/-- unicode/utf8.AppendRune: "AppendRune appends the UTF-8 encoding of r to the end of p and returns the extended buffer. If the rune is out of range, it appends the encoding of RuneError.": ONTO A ROW OF BYTES THAT THE CALL OWNS (its head frozen or not): EVERY int32: 'Lib.runeCells r' goes in behind what the row holds; the world: one new block (the bytes as the call's variadic argument), then what 'append' does to the row. (LAID: no walk: one application.) -/
theorem Tryd.utf8_AppendRune_plain (B : Nat) (v : Value) (n : Nat) (xs : List Value) (r : Int) (hr0 : -2147483648 ≤ r) (hr1 : r ≤ 2147483647) (w : World) (hown : w.ownsRow B 5 1 v n xs) (hlen : n + 4 ≤ 140737488355328) (hBw : B ≤ w.heap.size) :
    Calls Tryd.prog 22 #[v, .int .i32 r] w fun e w' => ∃ v', e = .returned v' ∧ w'.ownsRow B 5 1 v' (n + (Lib.runeCells r).length) (xs ++ Lib.runeCells r) ∧ ∃ o, (w.alloc o).grownBy w' v.ownBlock := Any.utf8_AppendRune_plain Tryd.lays242 (by kernel_rfl) B v n xs r hr0 hr1 w hown hlen hBw
end Go.Proofs
end
section
namespace Go.Proofs
open Go.RowKit Go.Shelf
set_option linter.unusedVariables false

/-! ### strings.Builder's copyCheck and WriteRune: the shelf's own can't be laid here, since the arm that panics is refused in this translation -/
theorem builderSize : (Tryd.prog.info? 55).map (·.size) = some 2 := by kernel_rfl
theorem builderLies : liesAt Tryd.prog Tryd.prog.depth 55 (2 / Tryd.prog.cellsOf 55) 0 55 1 = true := by kernel_rfl
set_option maxHeartbeats 1000000 in
set_option maxRecDepth 100000 in
theorem copyCheck_used (b : Nat) (w : World) (h0 : w.cell? ⟨b, 0, none⟩ = some (.pointer (some ⟨b, 0, none⟩))) :
    Calls Tryd.prog 21 #[.pointer (some ⟨b, 0, none⟩)] w fun e w' => e = .returned (.tuple #[]) ∧ w' = w := by
  obtain ⟨j, hj, _⟩ := Option.map_eq_some_iff.1 builderSize
  go_enter Tryd.func21, Tryd.ntmps21
  go_wp2
  rw [Lib.run_neq_ptr_same w _ Tryd.underlying52 hj]
  go_wp2
  go_end0
  exact ⟨rfl, rfl⟩

set_option maxHeartbeats 1000000 in
set_option maxRecDepth 100000 in
theorem copyCheck_fresh (b : Nat) (w : World) (h0 : w.cell? ⟨b, 0, none⟩ = some (.pointer none)) (hsh : w.shape? b = some (55, 2)) (hfz : w.frozen? ⟨b, 0, none⟩ = false) :
    Calls Tryd.prog 21 #[.pointer (some ⟨b, 0, none⟩)] w fun e w' => e = .returned (.tuple #[]) ∧ w' = w.setCell ⟨b, 0, none⟩ (.pointer (some ⟨b, 0, none⟩)) := by
  obtain ⟨j, hj, hjs⟩ := Option.map_eq_some_iff.1 builderSize
  go_enter Tryd.func21, Tryd.ntmps21
  go_wp2
  rw [Lib.run_to_unsafe w ⟨b, 0, none⟩ Tryd.underlying52 Tryd.underlying64 hj (by rw [hjs]; decide) hsh (Nat.zero_lt_succ 1)]
  simp only [Result.andThen]
  rw [Oper.upon_value]
  go_wp2
  rw [run_callFunc_extern Tryd.func23 (by kernel_rfl) (by kernel_rfl) (by kernel_rfl) (e := Extern.AbiNoEscape.same) (by kernel_rfl)]
  rw [Lib.run_noEscape]
  simp only [Result.andThen]
  rw [Oper.upon_value]
  go_wp2
  rw [Lib.run_from_unsafe w ⟨b, 0, none⟩ Tryd.underlying64 Tryd.underlying52 hj hsh builderLies]
  simp only [Result.andThen]
  rw [Oper.upon_value]
  go_wp2
  go_end0
  exact ⟨rfl, rfl⟩

theorem copyCheck_k (B b : Nat) (bs : List Value) (w : World) (h : Lib.IsBuilderF 55 5 B b bs w) :
    Calls Tryd.prog 21 #[.pointer (some ⟨b, 0, none⟩)] w fun e w' => e = .returned (.tuple #[]) ∧ (Lib.BuilderAtF 55 5 B b (.pointer (some ⟨b, 0, none⟩)) bs w' ∧ Below B w w' ∧ Lib.OthersKept 5 (some b) w w') := by
  rcases h with h | h
  · refine (copyCheck_fresh b w h.cell0 h.shape h.frozen0).mono ?_
    rintro e w' ⟨rfl, rfl⟩
    exact ⟨rfl, h.used _, (Below.refl B w).setCell (p := ⟨b, 0, none⟩) h.1 _, (Lib.OthersKept.refl _ _ w).setCell ⟨b, 0, none⟩ rfl _⟩
  · refine (copyCheck_used b w h.cell0).mono ?_
    rintro e w' ⟨rfl, rfl⟩
    exact ⟨rfl, h, Below.refl B _, Lib.OthersKept.refl _ _ _⟩

set_option maxHeartbeats 4000000 in
set_option maxRecDepth 100000 in
/-- WriteRune. -/
theorem writeRune_k (B b : Nat) (bs : List Value) (r : Int) (hr0 : -2147483648 ≤ r) (hr1 : r ≤ 2147483647) (w : World) (h : Lib.IsBuilderF 55 5 B b bs w) (hlen : bs.length + 4 ≤ 140737488355328) (hBw : B ≤ w.heap.size) :
    Calls Tryd.prog 19 #[.pointer (some ⟨b, 0, none⟩), .int .i32 r] w fun e w' => e = .returned (.tuple #[.int .i64 (Lib.runeCells r).length, .nilIface]) ∧ (Lib.BuilderAtF 55 5 B b (.pointer (some ⟨b, 0, none⟩)) (bs ++ Lib.runeCells r) w' ∧ Below B w w' ∧ Lib.OthersKept 5 (some b) w w') := by
  have hk4 := Lib.runeCells_le r
  go_enter Tryd.func19, Tryd.ntmps19
  go_wp2_with (go_at_call 21; refine (copyCheck_k B b bs _ h).mono ?_)
  rintro e w1 ⟨rfl, h1, hb1, hk1⟩
  obtain ⟨hB, v, hbk, hown, hne⟩ := h1
  obtain ⟨ao, cap, rfl⟩ : ∃ ao cap, v = .slice ao bs.length cap := by
    rcases hown.2 with ⟨hv, h0⟩ | ⟨g, cap, cur, fz, hv, _⟩
    · exact ⟨none, 0, by rw [hv, h0]⟩
    · exact ⟨_, _, hv⟩
  have c0 : w1.cell? ⟨b, 0, none⟩ = some (.pointer (some ⟨b, 0, none⟩)) := by rw [Lib.cell_of_heap hbk]; rfl
  have c1 : w1.cell? ⟨b, 1, none⟩ = some (.slice ao bs.length cap) := by rw [Lib.cell_of_heap hbk]; rfl
  go_wp2_with (go_at_call 22; refine (Tryd.utf8_AppendRune_row B _ bs.length bs r hr0 hr1 _ hown hlen (by have := hb1.size; omega)).mono ?_)
  rintro e w2 ⟨v', rfl, hown', o, hgrow⟩
  have hlt : b < w1.heap.size := by
    rcases Nat.lt_or_ge b w1.heap.size with h' | h'
    · exact h'
    · simp [Array.getElem?_eq_none h'] at hbk
  have hb2 : w2.heap[b]? = some (.cells #[.pointer (some ⟨b, 0, none⟩), .slice ao bs.length cap] 55 (0, 0)) := by
    rw [hgrow.block b (by simp; omega) (fun e => hne e.symm), Lib.alloc_old w1 _ b hlt]
    exact hbk
  have d0 : w2.cell? ⟨b, 0, none⟩ = some (.pointer (some ⟨b, 0, none⟩)) := by rw [Lib.cell_of_heap hb2]; rfl
  have d1 : w2.cell? ⟨b, 1, none⟩ = some (.slice ao bs.length cap) := by rw [Lib.cell_of_heap hb2]; rfl
  have f1 : w2.frozen? ⟨b, 1, none⟩ = false := Lib.frozen_of_heap hb2 1
  obtain ⟨g, cap', rfl⟩ : ∃ g cap', v' = .slice (some ⟨g, 0, none⟩) (bs.length + (Lib.runeCells r).length) cap' := by
    rcases hown'.2 with ⟨_, h0⟩ | ⟨g, cap', cur, fz, hv, _⟩
    · omega
    · exact ⟨g, cap', hv⟩
  go_wp2
  go_ret2
  refine ⟨?_, ?_, ?_, ((hk1.alloc _).grown hgrow (Lib.ownsRowF_kind (hown.alloc _))).setCell ⟨b, 1, none⟩ rfl _⟩
  · have e : ((bs.length : Int) + ((Lib.runeCells r).length : Int) - (bs.length : Int)) = ((Lib.runeCells r).length : Int) := by omega
    simp [e]
  · exact Lib.BuilderAtF.put (T := 55) (e := 5) hB hb2 (bs' := bs ++ Lib.runeCells r) (by simpa using hown') (by decide)
  · exact ((hb1.alloc (by have := hb1.size; omega) _).grown hgrow (by have := hb1.size; simp; omega) (fun k hk => (hown.lt k hk).1)).setCell (p := ⟨b, 1, none⟩) hB _
end Go.Proofs
end
section
namespace Go.Proofs
open Go.RowKit
set_option linter.unusedVariables false

/-! ### Texts -/
abbrev lettersB : ByteArray := { data := #[115, 119, 107, 117, 97, 100, 109, 114] }
def lettersL : List UInt8 := [115, 119, 107, 117, 97, 100, 109, 114]
def txtAt (r i : Nat) : UInt8 := if r.testBit i then lettersL.getD i 45 else 45
def txtTo (r n : Nat) : List UInt8 := (List.range n).map (txtAt r)
def txt (r : Nat) : List UInt8 := txtTo r 8
theorem txtTo_succ (r n : Nat) : txtTo r (n + 1) = txtTo r n ++ [txtAt r n] := by unfold txtTo; rw [List.range_succ, List.map_append]; rfl
theorem txtTo_length (r n : Nat) : (txtTo r n).length = n := by unfold txtTo; simp
theorem letter_ascii : ∀ p : Fin 8, (lettersL.getD p.val 45).toNat < 128 := by decide
theorem letter_get : ∀ p : Fin 8, (lettersB[p.val]'(by show p.val < 8; exact p.isLt)) = lettersL.getD p.val 45 := by decide
theorem and_bit {r p : Nat} (hr : r < 256) (hp : p < 8) : (bits BinOp.and IntKind.u8 ((r : Nat) : Int) (pwN p) == 0) = !r.testBit p := by
  have h2 : 2 ^ p < 256 := Nat.pow_lt_pow_right (a := 2) (by omega) (show p < 8 from hp)
  have hpos : 0 < 2 ^ p := Nat.pow_pos (by omega)
  rw [show pwN p = ((2 ^ p : Nat) : Int) from rfl, u8_and_nat r (2 ^ p) hr h2]
  cases hb : r.testBit p
  · have : r &&& 2 ^ p = 0 := by
      apply Nat.eq_of_testBit_eq
      intro i
      rw [Nat.testBit_and, Nat.zero_testBit, Nat.testBit_two_pow]
      by_cases hi : p = i
      · subst hi; rw [hb]; rfl
      · simp [hi]
    rw [this]; rfl
  · have : r &&& 2 ^ p ≠ 0 := fun e => by
      have := congrArg (fun x => Nat.testBit x p) e
      simp [Nat.testBit_and, hb] at this
    simp only [Bool.not_true, beq_eq_false_iff_ne, ne_eq]
    omega
theorem runeCells_ascii {n : Nat} (h : n < 128) : Lib.runeCells (n : Int) = [.int .u8 n] := by
  simp [Lib.runeCells, Lib.encodeRuneZ_one (r := (n : Int)) (by omega) (by omega)]
theorem byteCells_one (b : UInt8) : Lib.byteCells [b] = [.int .u8 b.toNat] := rfl

set_option maxHeartbeats 4000000 in
set_option maxRecDepth 1000000 in
/-- Text. -/
theorem text_any (r : Nat) (hr : r < 256) (w : World) :
    Calls Tryd.prog 16 #[.int .u8 r] w fun e w' => e = .returned (.string ⟨(txt r).toArray⟩) ∧ Below w.heap.size w w' := by
  go_enter Tryd.func16, Tryd.ntmps16
  go_wp2
  go_loopw [] (fun wr => ∃ (pos : Nat), pos ≤ 8 ∧ Lib.IsBuilderF 55 5 w.heap.size w.heap.size (Lib.byteCells (txtTo r pos)) wr ∧ wr.heap[w.heap.size + 1]? = some (.stringIter lettersB pos) ∧ Below w.heap.size w wr) (fun wr => 8 - wr.iterPos (w.heap.size + 1))
  case atStart =>
    refine ⟨0, by omega, (Lib.IsBuilderF.of (Lib.fresh_isBuilder 55 5 w)).alloc _, ?_, ((Below.refl _ w).alloc (Nat.le_refl _) _).alloc (by simp) _⟩
    have := World.iter_heap (w.alloc (.cells #[.pointer none, .slice none 0 0] 55)) lettersB 0
    simpa using this
  case round =>
    obtain ⟨pos, hpos, hI, hit, hbw⟩ := hrel
    have hsz : w.heap.size + 1 < wr.heap.size := (Array.getElem?_eq_some_iff.1 hit).1
    by_cases hp : pos < 8
    · have hlt : (lettersL.getD pos 45).toNat < 128 := letter_ascii ⟨pos, hp⟩
      have hget := letter_get ⟨pos, hp⟩
      simp only at hget
      obtain ⟨c, hc⟩ : ∃ c, c = (lettersL.getD pos 45).toNat := ⟨_, rfl⟩
      have hnx : ∀ ty, (Instr.next (.pointer (some ⟨w.heap.size + 1, 0, none⟩)) true ty).run Tryd.prog wr = .ok (.tuple #[.bool true, .int .i64 pos, .int .i32 c]) (wr.iterAt (w.heap.size + 1) lettersB (pos + 1)) := fun ty => by
        rw [Lib.run_next_ascii_at wr (w.heap.size + 1) lettersB pos ty hit hp (by rw [hget]; exact hlt), hget, ← hc]
      have hI2 := hI.iterAt hit (pos + 1)
      have hit2 := Lib.iterAt_heap wr (w.heap.size + 1) lettersB pos (pos + 1) hit
      have hbw2 := Lib.below_iterAt hbw (k := w.heap.size + 1) (by omega) lettersB (pos + 1)
      have hsz2 : w.heap.size ≤ (wr.iterAt (w.heap.size + 1) lettersB (pos + 1)).heap.size := by rw [Lib.iterAt_size]; omega
      rw [← hc] at hlt
      have hcH := Lib.hid hc
      clear hc
      have hA := and_bit hr hp
      cases hbit : r.testBit pos
      · rw [hbit] at hA
        have hz : txtAt r pos = 45 := by unfold txtAt; rw [hbit]; rfl
        go_wp2_with (go_at_call 18; refine (right_any pos hp _).mono ?_; rintro e w' ⟨rfl, rfl⟩)
        go_wp2_with (go_at_call 19; refine (writeRune_k w.heap.size w.heap.size _ 45 (by omega) (by omega) _ hI2 (by rw [Lib.byteCells_length, txtTo_length]; omega) hsz2).mono ?_)
        rintro e W1 ⟨rfl, h1, b1, k1⟩
        go_wp2
        go_roundw
        case rel =>
          refine ⟨pos + 1, by omega, ?_, k1.iter hit2 (by omega), hbw2.trans b1⟩
          rw [txtTo_succ, Lib.byteCells_append, hz, byteCells_one]
          exact Or.inr h1
        case measure =>
          simp only [World.iterPos, k1.iter hit2 (by omega), hit]
          omega
      · rw [hbit] at hA
        have hz : txtAt r pos = lettersL.getD pos 45 := by unfold txtAt; rw [hbit]; rfl
        go_wp2_with (go_at_call 18; refine (right_any pos hp _).mono ?_; rintro e w' ⟨rfl, rfl⟩)
        go_wp2_with (go_at_call 19; refine (writeRune_k w.heap.size w.heap.size _ c (by omega) (by omega) _ hI2 (by rw [Lib.byteCells_length, txtTo_length]; omega) hsz2).mono ?_)
        rintro e W1 ⟨rfl, h1, b1, k1⟩
        go_wp2
        go_roundw
        case rel =>
          refine ⟨pos + 1, by omega, ?_, k1.iter hit2 (by omega), hbw2.trans b1⟩
          rw [runeCells_ascii hlt] at h1
          rw [txtTo_succ, Lib.byteCells_append, hz, byteCells_one, ← hcH.out]
          exact Or.inr h1
        case measure =>
          simp only [World.iterPos, k1.iter hit2 (by omega), hit]
          omega
    · obtain rfl : pos = 8 := by omega
      have hnx : ∀ ty, (Instr.next (.pointer (some ⟨w.heap.size + 1, 0, none⟩)) true ty).run Tryd.prog wr = _ := fun ty => Lib.run_next_end_at wr (w.heap.size + 1) lettersB 8 ty hit (by decide)
      go_wp2_with (go_at_call 20; refine (Tryd.Builder_String_any_k w.heap.size w.heap.size (txtTo r 8) _ hI (by omega)).mono ?_)
      rintro e W1 ⟨rfl, _, b1, _⟩
      go_wp2
      go_ret
      exact ⟨rfl, hbw.trans b1⟩
end Go.Proofs
end
section
namespace Go.Proofs
open Go.RowKit
set_option linter.unusedVariables false
set_option linter.unusedSimpArgs false

/-! ### The chapter's rows -/
theorem narrow_r (x y : Int) (h : x = 65 ∧ y = 64 ∨ x = 64 ∧ y = 65) (w : World) : Calls Tryd.prog 15 #[.int .u8 x, .int .u8 y] w fun e w' => e = .returned (.tuple #[.int .u8 (if x = 65 then 64 else 0), .bool (decide (x = 65))]) ∧ w = w' := by
  rcases h with ⟨rfl, rfl⟩ | ⟨rfl, rfl⟩
  · exact narrow_any 65 64 (by omega) (by omega) w
  · exact narrow_any 64 65 (by omega) (by omega) w
theorem txt_r : txt 65 = [115, 45, 45, 45, 45, 45, 109, 45] := by decide +kernel
theorem text_r (w : World) : Calls Tryd.prog 16 #[.int .u8 65] w fun e w' => e = .returned (.string ⟨#[115, 45, 45, 45, 45, 45, 109, 45]⟩) ∧ Below w.heap.size w w' := by
  have := text_any 65 (by omega) w
  rw [txt_r] at this
  exact this
set_option maxRecDepth 100000 in
theorem known_any (w : World) : Calls Tryd.prog 11 #[] w fun e w' => e = .returned (.bool true) ∧ Below w.heap.size w w' := by
  go_enter Tryd.func11, Tryd.ntmps11
  go_wp2_with (first
    | (go_at_call 15; refine (narrow_r _ _ (by decide) _).mono ?_; rintro e w' ⟨rfl, rfl⟩)
    | (go_at_call 16; refine (text_r _).mono ?_; rintro e w1 ⟨rfl, b1⟩))
  go_ret
  exact ⟨rfl, b1⟩

end Go.Proofs
end
section
namespace Go.Proofs
open Go.RowKit
set_option linter.unusedVariables false
set_option linter.unusedSimpArgs false

/-! ### The published table -/
/-- A row: the name, how many registers, and of the arguments 0 and 1 the kind (below 0: no slot) and the rights. -/
structure RowC where
  name : List UInt8
  args : Int
  k0 : Int
  r0 : Int
  k1 : Int
  r1 : Int
def rowsL : List RowC := [
  ⟨[], 0, -1, 0, -1, 0⟩,
  ⟨[121, 105, 101, 108, 100], 0, -1, 0, -1, 0⟩,
  ⟨[101, 120, 105, 116], 0, -1, 0, -1, 0⟩,
  ⟨[112, 97, 114, 107], 0, -1, 0, -1, 0⟩,
  ⟨[115, 108, 101, 101, 112], 1, -1, 0, -1, 0⟩,
  ⟨[115, 112, 97, 119, 110], 4, 3, 1, 2, 32⟩,
  ⟨[119, 97, 107, 101], 1, 1, 2, -1, 0⟩,
  ⟨[107, 105, 108, 108], 1, 1, 4, -1, 0⟩,
  ⟨[115, 117, 115, 112, 101, 110, 100], 1, 1, 8, -1, 0⟩,
  ⟨[114, 101, 115, 117, 109, 101], 1, 1, 8, -1, 0⟩,
  ⟨[97, 102, 102, 105, 110, 105, 116, 121], 2, 1, 16, -1, 0⟩,
  ⟨[98, 105, 110, 100], 2, 1, 32, 2, 32⟩,
  ⟨[109, 105, 110, 116], 3, 0, 64, -1, 0⟩,
  ⟨[99, 111, 112, 121], 2, 0, 64, -1, 0⟩,
  ⟨[109, 111, 118, 101], 2, 0, 0, -1, 0⟩,
  ⟨[100, 101, 108, 101, 116, 101], 1, 0, 0, -1, 0⟩,
  ⟨[114, 101, 118, 111, 107, 101], 1, 0, 128, -1, 0⟩,
  ⟨[103, 105, 118, 101], 3, 1, 32, 0, 64⟩,
  ⟨[115, 112, 108, 105, 116], 3, 2, 32, -1, 0⟩,
  ⟨[100, 111, 110, 97, 116, 101], 3, 2, 32, 2, 32⟩,
  ⟨[99, 97, 114, 118, 101], 5, 3, 1, -1, 0⟩,
  ⟨[109, 101, 114, 103, 101], 1, 3, 128, -1, 0⟩,
  ⟨[100, 114, 111, 112], 1, 2, 128, -1, 0⟩]
def rowAt (n : Nat) : RowC := rowsL.getD n ⟨[], 0, -1, 0, -1, 0⟩
/-- The row of a number. -/
def rowOf (k : Int) : RowC := if 1 ≤ k ∧ k ≤ 22 then rowAt k.toNat else rowAt 0
def isCall (k : Int) : Bool := decide (1 ≤ k) && decide (k ≤ 22)
abbrev RowC.val (x : RowC) : Value := .agg #[.string ⟨x.name.toArray⟩, .int .i64 x.args, .int .i64 x.k0, .int .i64 x.r0, .int .i64 x.k1, .int .i64 x.r1]
theorem call_cases (k : Int) : k = 1 ∨ k = 2 ∨ k = 3 ∨ k = 4 ∨ k = 5 ∨ k = 6 ∨ k = 7 ∨ k = 8 ∨ k = 9 ∨ k = 10 ∨ k = 11 ∨ k = 12 ∨ k = 13 ∨ k = 14 ∨ k = 15 ∨ k = 16 ∨ k = 17 ∨ k = 18 ∨ k = 19 ∨ k = 20 ∨ k = 21 ∨ k = 22 ∨ (k < 1 ∨ 22 < k) := by omega
set_option maxRecDepth 100000 in
set_option maxHeartbeats 4000000 in
/-- The document's row of a call. -/
theorem rof_any (k : Int) (w : World) :
    Calls Tryd.prog 5 #[.int .i64 k] w fun e w' => e = .returned (.tuple #[(rowOf k).val, .bool (isCall k)]) ∧ Below w.heap.size w w' := by
  rcases call_cases k with rfl | rfl | rfl | rfl | rfl | rfl | rfl | rfl | rfl | rfl | rfl | rfl | rfl | rfl | rfl | rfl | rfl | rfl | rfl | rfl | rfl | rfl | hk
  case inr.inr.inr.inr.inr.inr.inr.inr.inr.inr.inr.inr.inr.inr.inr.inr.inr.inr.inr.inr.inr.inr =>
    have h0 : rowOf k = rowAt 0 := by unfold rowOf; rw [if_neg (by omega)]
    have h1 : isCall k = false := by unfold isCall; simp; omega
    rw [h0, h1]
    have n1 : (k == 1) = false := by simp; omega
    have n2 : (k == 2) = false := by simp; omega
    have n3 : (k == 3) = false := by simp; omega
    have n4 : (k == 4) = false := by simp; omega
    have n5 : (k == 5) = false := by simp; omega
    have n6 : (k == 6) = false := by simp; omega
    have n7 : (k == 7) = false := by simp; omega
    have n8 : (k == 8) = false := by simp; omega
    have n9 : (k == 9) = false := by simp; omega
    have n10 : (k == 10) = false := by simp; omega
    have n11 : (k == 11) = false := by simp; omega
    have n12 : (k == 12) = false := by simp; omega
    have n13 : (k == 13) = false := by simp; omega
    have n14 : (k == 14) = false := by simp; omega
    have n15 : (k == 15) = false := by simp; omega
    have n16 : (k == 16) = false := by simp; omega
    have n17 : (k == 17) = false := by simp; omega
    have n18 : (k == 18) = false := by simp; omega
    have n19 : (k == 19) = false := by simp; omega
    have n20 : (k == 20) = false := by simp; omega
    have n21 : (k == 21) = false := by simp; omega
    have n22 : (k == 22) = false := by simp; omega
    clear h0 h1 hk
    go_enter Tryd.func5, Tryd.ntmps5
    go_wp2
    exact bodyPost_ret (v := .tuple #[(rowAt 0).val, .bool false]) (by simp [results, Tryd.results5, go_sem]; decide) rfl ⟨rfl, (Below.refl _ w).alloc (Nat.le_refl _) _⟩
  all_goals
    go_enter Tryd.func5, Tryd.ntmps5
    go_wp2
    exact bodyPost_ret (v := .tuple #[(rowOf _).val, .bool true]) (by simp [results, Tryd.results5, go_sem]; decide) rfl ⟨rfl, (Below.refl _ w).alloc (Nat.le_refl _) _⟩
end Go.Proofs
end
section
namespace Go.Proofs
open Go.RowKit
set_option linter.unusedVariables false
set_option linter.unusedSimpArgs false

/-! ### The program's array of names -/
/-- The array holds the table's names and numbers of registers. -/
def TabAt (w : World) : Prop := 0 < w.heap.size ∧ ∀ n : Nat, n < 23 → w.cell? ⟨0, n * 2, none⟩ = some (.string ⟨(rowAt n).name.toArray⟩) ∧ w.cell? ⟨0, n * 2 + 1, none⟩ = some (.int .i64 (rowAt n).args)
theorem TabAt.next {w w' : World} (h : TabAt w) (hb : Below w.heap.size w w') : TabAt w' :=
  ⟨Nat.lt_of_lt_of_le h.1 hb.size, fun n hn => ⟨(hb.cell (show 0 < _ from h.1)).trans (h.2 n hn).1, (hb.cell (show 0 < _ from h.1)).trans (h.2 n hn).2⟩⟩
set_option maxRecDepth 100000 in
theorem row_any (k : Int) (w : World) (h : TabAt w) :
    Calls Tryd.prog 14 #[.int .i64 k] w fun e w' => e = .returned (.agg #[.string ⟨(rowOf k).name.toArray⟩, .int .i64 (rowOf k).args]) ∧ Below w.heap.size w w' := by
  have hpos := h.1
  by_cases hk : 1 ≤ k ∧ k ≤ 22
  · obtain ⟨n, rfl⟩ := Int.eq_ofNat_of_zero_le (show 0 ≤ k by omega)
    have hr : rowOf (n : Int) = rowAt n := by unfold rowOf; rw [if_pos hk]; rfl
    rw [hr]
    obtain ⟨h1, h2⟩ := h.2 n (by omega)
    obtain ⟨x, hx⟩ : ∃ x : ByteArray, x = ⟨(rowAt n).name.toArray⟩ := ⟨_, rfl⟩
    obtain ⟨y, hy⟩ : ∃ y, y = (rowAt n).args := ⟨_, rfl⟩
    rw [← hx] at h1 ⊢
    rw [← hy] at h2 ⊢
    have hlo : ¬ (n : Int) < 1 := by omega
    have hhi : ¬ (n : Int) > 22 := by omega
    clear hx hy hr h
    go_enter Tryd.func14, Tryd.ntmps14
    go_wp2
    exact bodyPost_ret (v := .agg #[.string x, .int .i64 y]) (by simp [results, Tryd.results14, go_sem]) rfl ⟨rfl, (Below.refl _ w).alloc (Nat.le_refl _) _⟩
  · have hr : rowOf k = rowAt 0 := by unfold rowOf; rw [if_neg hk]
    rw [hr]
    clear hr h
    by_cases hlo : k < 1
    · go_enter Tryd.func14, Tryd.ntmps14
      go_wp2
      exact bodyPost_ret (v := .agg #[.string ⟨#[]⟩, .int .i64 0]) (by simp [results, Tryd.results14, go_sem]) rfl ⟨rfl, (Below.refl _ w).alloc (Nat.le_refl _) _⟩
    · have hhi : k > 22 := by omega
      go_enter Tryd.func14, Tryd.ntmps14
      go_wp2
      exact bodyPost_ret (v := .agg #[.string ⟨#[]⟩, .int .i64 0]) (by simp [results, Tryd.results14, go_sem]) rfl ⟨rfl, (Below.refl _ w).alloc (Nat.le_refl _) _⟩
theorem name_any (k : Int) (w : World) (h : TabAt w) :
    Calls Tryd.prog 8 #[.int .i64 k] w fun e w' => e = .returned (.string ⟨(rowOf k).name.toArray⟩) ∧ Below w.heap.size w w' := by
  have e14 := row_any k w h
  obtain ⟨x, hx⟩ : ∃ x : ByteArray, x = ⟨(rowOf k).name.toArray⟩ := ⟨_, rfl⟩
  rw [← hx] at e14 ⊢
  clear hx
  have hfd : ∀ (y : Value) (W : World), (Instr.field 45 (.agg #[.string x, y]) 0).run Tryd.prog W = .ok (.string x) W := fun _ _ => by kernel_rfl
  go_enter Tryd.func8, Tryd.ntmps8
  go_wp2_with (go_at_call 14; refine e14.mono ?_; rintro e w1 ⟨rfl, b1⟩)
  go_ret
  exact ⟨rfl, b1⟩
theorem args_any (k : Int) (w : World) (h : TabAt w) :
    Calls Tryd.prog 9 #[.int .i64 k] w fun e w' => e = .returned (.int .i64 (rowOf k).args) ∧ Below w.heap.size w w' := by
  have e14 := row_any k w h
  obtain ⟨x, hx⟩ : ∃ x, x = (rowOf k).args := ⟨_, rfl⟩
  rw [← hx] at e14 ⊢
  clear hx
  have hfd : ∀ (y : Value) (W : World), (Instr.field 45 (.agg #[y, .int .i64 x]) 1).run Tryd.prog W = .ok (.int .i64 x) W := fun _ _ => by kernel_rfl
  go_enter Tryd.func9, Tryd.ntmps9
  go_wp2_with (go_at_call 14; refine e14.mono ?_; rintro e w1 ⟨rfl, b1⟩)
  go_ret
  exact ⟨rfl, b1⟩
/-! ### Of -/
/-- The last one up to n whose name it is (0: none). -/
def wantTo (l : List UInt8) : Nat → Nat
  | 0 => 0
  | n + 1 => if (rowAt (n + 1)).name = l then n + 1 else wantTo l n
def ofC (l : List UInt8) : Nat := wantTo l 22
theorem ofC_name : ∀ n : Fin 23, ofC (rowAt n.val).name = n.val := by decide +kernel
theorem ofC_yes {l : List UInt8} {n : Nat} (hn : n < 23) (h : (rowAt n).name = l) : ofC l = n := by rw [← h]; exact ofC_name ⟨n, hn⟩
theorem wantTo_none {l : List UInt8} : ∀ n, (∀ j, 1 ≤ j → j ≤ n → (rowAt j).name ≠ l) → wantTo l n = 0
  | 0, _ => rfl
  | n + 1, h => by rw [wantTo, if_neg (h (n + 1) (by omega) (by omega)), wantTo_none n fun j h1 h2 => h j h1 (by omega)]
set_option maxRecDepth 100000 in
theorem of_any (l : List UInt8) (w : World) (h : TabAt w) :
    Calls Tryd.prog 12 #[.string ⟨l.toArray⟩] w fun e w' => e = .returned (.tuple #[.int .i64 (ofC l), .bool (decide (0 < ofC l))]) ∧ w' = w := by
  have hpos := h.1
  go_enter Tryd.func12, Tryd.ntmps12
  go_wp2
  go_loop [4] (fun i => ∃ k : Nat, 1 ≤ k ∧ k ≤ 23 ∧ i = .int .i64 k ∧ ∀ j, 1 ≤ j → j < k → (rowAt j).name ≠ l) (fun i => 23 - (intOf i).toNat)
  case atStart => exact ⟨1, by omega, by omega, rfl, fun j h1 h2 => absurd h1 (by omega)⟩
  case round =>
    obtain ⟨k, hk1, hk, rfl, hno⟩ := hrel
    by_cases hlt : k < 23
    · obtain ⟨h1, _⟩ := h.2 k hlt
      by_cases hS : (rowAt k).name = l
      · have hC := Lib.hid (ofC_yes hlt hS)
        rw [hS] at h1
        clear hno h hS
        go_wp2
        go_ret2
        exact ⟨by rw [hC.out, decide_eq_true (by omega)]; rfl, rfl⟩
      · have hS' : ((rowAt k).name == l) = false := by simpa using hS
        have hSH := Lib.hid hS
        clear hS
        obtain ⟨x, hx⟩ : ∃ x, x = (rowAt k).name := ⟨_, rfl⟩
        rw [← hx] at h1 hS'
        have hxH := Lib.hid hx
        clear hx
        go_wp2
        go_round
        case rel => exact ⟨k + 1, by omega, by omega, by go_num, fun j j1 j2 => by
          by_cases e : j = k
          · rw [e]; exact hSH.out
          · exact hno j j1 (by omega)⟩
        case measure => simp [intOf]; omega
    · obtain rfl : k = 23 := by omega
      have hC : Hid (ofC l = 0) := Lib.hid (wantTo_none 22 fun j h1 h2 => hno j h1 (by omega))
      clear hno
      go_wp2
      go_ret2
      exact ⟨by rw [hC.out]; rfl, rfl⟩
end Go.Proofs
end
section
namespace Go.Proofs
open Go.RowKit
set_option linter.unusedVariables false
set_option linter.unusedSimpArgs false

theorem wantTo_succ_yes {l : List UInt8} {n : Nat} (h : (rowAt (n + 1)).name = l) : wantTo l (n + 1) = n + 1 := by rw [wantTo, if_pos h]
theorem wantTo_succ_no {l : List UInt8} {n : Nat} (h : (rowAt (n + 1)).name ≠ l) : wantTo l (n + 1) = wantTo l n := by rw [wantTo, if_neg h]
theorem rowOf_nat {n : Nat} (h1 : 1 ≤ n) (h2 : n < 23) : rowOf (n : Int) = rowAt n := by unfold rowOf; rw [if_pos (by omega)]; rfl
set_option maxRecDepth 100000 in
set_option maxHeartbeats 2000000 in
theorem names_law (l : List UInt8) (w : World) (h : TabAt w) :
    Calls Tryd.prog 4 #[.string ⟨l.toArray⟩] w fun e w' => e = .returned (.bool true) ∧ Below w.heap.size w w' := by
  by_cases hl : 1000 < l.length
  · go_enter Tryd.func4, Tryd.ntmps4
    go_wp2_with (go_at_call 11; refine (known_any _).mono ?_; rintro e w1 ⟨rfl, b1⟩)
    go_ret
    exact ⟨rfl, b1⟩
  · obtain ⟨C, hC⟩ : ∃ C, C = ofC l := ⟨_, rfl⟩
    have e12 := of_any l w h
    rw [← hC] at e12
    have hCH := Lib.hid hC
    clear hC
    go_enter Tryd.func4, Tryd.ntmps4
    go_wp2_with (go_at_call 12; refine e12.mono ?_; rintro e w1 ⟨rfl, rfl⟩; clear e12)
    go_loopw [5, 6] (fun want i wr => ∃ k : Nat, k ≤ 22 ∧ i = .int .i64 ((k : Int) + 1) ∧ want = .int .i64 (wantTo l k : Nat) ∧ Below w1.heap.size w1 wr) (fun _ i _ => 23 - (intOf i).toNat)
    case atStart => exact ⟨0, by omega, rfl, rfl, Below.refl _ _⟩
    case round =>
      obtain ⟨k, hk, rfl, hwant, hb⟩ := hrel
      have hT := h.next hb
      by_cases hlt : k < 22
      · have hk1 : (k : Int) + 1 = ((k + 1 : Nat) : Int) := by omega
        have e5 := rof_any ((k : Int) + 1) wr
        have hr : rowOf ((k : Int) + 1) = rowAt (k + 1) := by rw [hk1]; exact rowOf_nat (by omega) (by omega)
        have hcall : isCall ((k : Int) + 1) = true := by unfold isCall; simp; omega
        have e8 := fun W (hW : TabAt W) => name_any ((k : Int) + 1) W hW
        rw [hr, hcall] at e5
        rw [hr] at e8
        have hself := ofC_yes (l := (rowAt (k + 1)).name) (show k + 1 < 23 by omega) rfl
        obtain ⟨⟨nm, ar, k0, r0, k1, r1⟩, hx⟩ : ∃ x, x = rowAt (k + 1) := ⟨_, rfl⟩
        have hnm : nm = (rowAt (k + 1)).name := by rw [← hx]
        rw [← hx] at e5 e8 hself
        simp only at e5 e8 hself
        have e12 := fun W (hW : TabAt W) => of_any nm W hW
        rw [hself] at e12
        have hcast : (((k + 1 : Nat) : Int)) = (k : Int) + 1 := by omega
        have hdec : decide (0 < k + 1) = true := by simp
        simp only [hcast, hdec] at e12
        clear hr hcall hself hcast hdec hk1 hx
        subst hwant
        by_cases hS : nm = l
        · have hS' : (nm == l) = true := by simpa using hS
          have hW := Lib.hid (wantTo_succ_yes (l := l) (n := k) (hnm ▸ hS))
          clear hS hnm
          go_wp2_with (first
            | (go_at_call 5; refine e5.mono ?_; rintro e w2 ⟨rfl, b2⟩; have hT2 := (hT.next b2).next ((Below.refl w2.heap.size w2).alloc (Nat.le_refl _) (.cells #[.string ⟨nm.toArray⟩, .int .i64 ar, .int .i64 k0, .int .i64 r0, .int .i64 k1, .int .i64 r1] 23)))
            | (go_at_call 8; refine (e8 _ hT2).mono ?_; rintro e w3 ⟨rfl, b3⟩; have hT3 := hT2.next b3)
            | (go_at_call 12; refine (e12 _ hT3).mono ?_; rintro e w4 ⟨rfl, rfl⟩))
          go_roundw
          case rel =>
            have hb2 := hb.trans (b2.mono hb.size)
            have hb3 := hb2.alloc hb2.size (.cells #[.string ⟨nm.toArray⟩, .int .i64 ar, .int .i64 k0, .int .i64 r0, .int .i64 k1, .int .i64 r1] 23)
            exact ⟨k + 1, by omega, by simp, by rw [hW.out]; simp, hb3.trans (b3.mono hb3.size)⟩
          case measure => simp [intOf]; omega
        · have hS' : (nm == l) = false := by simpa using hS
          have hW := Lib.hid (wantTo_succ_no (l := l) (n := k) (hnm ▸ hS))
          clear hS hnm
          go_wp2_with (first
            | (go_at_call 5; refine e5.mono ?_; rintro e w2 ⟨rfl, b2⟩; have hT2 := (hT.next b2).next ((Below.refl w2.heap.size w2).alloc (Nat.le_refl _) (.cells #[.string ⟨nm.toArray⟩, .int .i64 ar, .int .i64 k0, .int .i64 r0, .int .i64 k1, .int .i64 r1] 23)))
            | (go_at_call 8; refine (e8 _ hT2).mono ?_; rintro e w3 ⟨rfl, b3⟩; have hT3 := hT2.next b3)
            | (go_at_call 12; refine (e12 _ hT3).mono ?_; rintro e w4 ⟨rfl, rfl⟩))
          go_roundw
          case rel =>
            have hb2 := hb.trans (b2.mono hb.size)
            have hb3 := hb2.alloc hb2.size (.cells #[.string ⟨nm.toArray⟩, .int .i64 ar, .int .i64 k0, .int .i64 r0, .int .i64 k1, .int .i64 r1] 23)
            exact ⟨k + 1, by omega, by simp, by rw [hW.out], hb3.trans (b3.mono hb3.size)⟩
          case measure => simp [intOf]; omega
      · obtain rfl : k = 22 := by omega
        rw [show wantTo l 22 = C from hCH.out.symm] at hwant
        subst hwant
        rcases Nat.eq_zero_or_pos C with h0 | h0
        · subst h0
          go_wp2_with (go_at_call 11; refine (known_any _).mono ?_; rintro e w5 ⟨rfl, b5⟩)
          go_ret
          exact ⟨rfl, hb.trans (b5.mono hb.size)⟩
        · have hC1 : (0 : Int) < C := by omega
          have hC2 : decide ((0 : Int) < C) = true := by simp; omega
          go_wp2_with (go_at_call 11; refine (known_any _).mono ?_; rintro e w5 ⟨rfl, b5⟩)
          go_ret
          exact ⟨rfl, hb.trans (b5.mono hb.size)⟩
end Go.Proofs
end
section
namespace Go.Proofs
open Go.RowKit
set_option linter.unusedVariables false
set_option linter.unusedSimpArgs false

/-- A demand. -/
structure NeedC where
  arg : Int
  kind : Int
  r : Int
abbrev NeedC.cells (x : NeedC) : List Value := [.int .i64 x.arg, .int .i64 x.kind, .int .u8 x.r]
theorem need_any (a k r : Int) (w : World) :
    Calls Tryd.prog 17 #[.int .i64 a, .int .i64 k, .int .u8 r] w fun e w' => e = .returned (.agg #[.int .i64 a, .int .i64 k, .int .u8 r]) ∧ w' = w.alloc (.cells #[.int .i64 a, .int .i64 k, .int .u8 r] 36) := by
  go_enter Tryd.func17, Tryd.ntmps17
  go_wp2
  exact bodyPost_ret (v := .agg #[.int .i64 a, .int .i64 k, .int .u8 r]) (by simp [results, Tryd.results17, go_sem]) rfl ⟨rfl, rfl⟩

/-- A slice of demands in a block of its own. -/
def NeedsAt (B : Nat) (w : World) (v : Value) (l : List NeedC) : Prop :=
  ∃ b, B ≤ b ∧ v = .slice (some ⟨b, 0, none⟩) l.length l.length ∧ w.heap[b]? = some (.cells (l.flatMap NeedC.cells).toArray 36 (0, 0))
theorem NeedsAt.old {B : Nat} {w w' : World} {v : Value} {l : List NeedC} (h : NeedsAt B w v l) (hk : ∀ (b : Nat) (o : Obj), w.heap[b]? = some o → (∀ es c, o ≠ Obj.map es c) → w'.heap[b]? = some o) : NeedsAt B w' v l := by
  obtain ⟨b, hB, e, hb⟩ := h
  exact ⟨b, hB, e, hk b _ hb (fun _ _ e => by cases e)⟩
/-- The map that is being made: its entries, each key and the demands there. -/
structure DT (w0 w : World) (m : Nat) (E : List (Int × List NeedC)) : Prop where
  base : w0.heap.size ≤ m
  below : Below m w0 w
  map : ∃ es c, w.heap[m]? = some (.map es c) ∧ es.size = E.length ∧ ∀ (i : Nat) k l, E[i]? = some (k, l) → ∃ e, es[i]? = some e ∧ e.key = .int .i64 k ∧ NeedsAt w0.heap.size w e.val l
theorem DT.alloc {w0 w : World} {m : Nat} {E : List (Int × List NeedC)} (h : DT w0 w m E) (o : Obj) : DT w0 (w.alloc o) m E := by
  obtain ⟨es, c, hm, hs, he⟩ := h.map
  have hlt : m < w.heap.size := (Array.getElem?_eq_some_iff.1 hm).1
  have old : ∀ b (o' : Obj), w.heap[b]? = some o' → (w.alloc o).heap[b]? = some o' := fun b o' hb => (heap_alloc_old w o (Array.getElem?_eq_some_iff.1 hb).1).trans hb
  refine ⟨h.base, h.below.alloc (by omega) o, es, c, old _ _ hm, hs, fun i k l hi => ?_⟩
  obtain ⟨e, h1, h2, h3⟩ := he i k l hi
  exact ⟨e, h1, h2, h3.old fun b o' hb _ => old b o' hb⟩
theorem DT.made (w : World) : DT w (w.alloc (.map #[] 0)) w.heap.size [] :=
  ⟨Nat.le_refl _, (Below.refl _ w).alloc (Nat.le_refl _) _, #[], 0, (MapKept.heap_alloc w _).1, rfl, fun i k l hi => by simp at hi⟩
theorem keyWf {k : Int} (h0 : -9223372036854775808 ≤ k) (h1 : k ≤ 9223372036854775807) : keyOf Tryd.prog 29 (.int .i64 k) = some (.int .i64 k) :=
  Maps.keyOf_int_mk Tryd.underlying29 (WalkArith.wf_i64 ⟨h0, h1⟩)
theorem DT.keys {w0 w : World} {m : Nat} {E : List (Int × List NeedC)} (hE : ∀ x ∈ E, -9223372036854775808 ≤ x.1 ∧ x.1 ≤ 9223372036854775807) {es : Array MapEntry} (hs : es.size = E.length)
    (he : ∀ (i : Nat) k l, E[i]? = some (k, l) → ∃ e, es[i]? = some e ∧ e.key = .int .i64 k ∧ NeedsAt w0.heap.size w e.val l) : ∀ e ∈ es.toList, ∃ x ∈ E, e.key = .int .i64 x.1 ∧ NeedsAt w0.heap.size w e.val x.2 ∧ keyOf Tryd.prog 29 e.key = some (.int .i64 x.1) := by
  intro e hm
  obtain ⟨i, hi⟩ := List.getElem?_of_mem hm
  have hlt : i < E.length := by
    have := (List.getElem?_eq_some_iff.1 hi).1
    rw [Array.length_toList] at this
    omega
  obtain ⟨e', h1, h2, h3⟩ := he i E[i].1 E[i].2 (List.getElem?_eq_getElem hlt)
  have : e' = e := by
    have := h1.symm.trans (by simpa using hi)
    exact Option.some.inj this
  subst this
  have hx := hE E[i] (List.getElem_mem hlt)
  exact ⟨E[i], List.getElem_mem hlt, h2, h3, by rw [h2]; exact keyWf hx.1 hx.2⟩
/-- An entry more. -/
theorem DT.insert {w0 w : World} {m : Nat} {E : List (Int × List NeedC)} (h : DT w0 w m E) (hE : ∀ x ∈ E, -9223372036854775808 ≤ x.1 ∧ x.1 ≤ 9223372036854775807) {k : Int} (h0 : -9223372036854775808 ≤ k) (h1 : k ≤ 9223372036854775807) (hk : ∀ x ∈ E, x.1 ≠ k)
    {v : Value} {l : List NeedC} (hv : NeedsAt w0.heap.size w v l) : ∃ w', (Instr.mapUpdate 42 (.map (some m)) (.int .i64 k) v).run Tryd.prog w = .ok () w' ∧ DT w0 w' m (E ++ [(k, l)]) := by
  obtain ⟨es, c, hm, hs, he⟩ := h.map
  have K := Maps.int_keyed (P := Tryd.prog) Tryd.underlying29
  have hkeys := DT.keys (w0 := w0) (m := m) hE hs he
  have hlt : m < w.heap.size := (Array.getElem?_eq_some_iff.1 hm).1
  have hf : (Instr.findKey 29 (.int .i64 k) es.toList).run Tryd.prog w = .ok none w := by
    rcases K.find w (keyWf h0 h1) es.toList (fun e hm => by obtain ⟨x, _, _, _, hx⟩ := hkeys e hm; exact ⟨_, hx⟩) with ⟨hr, _⟩ | ⟨j, e, _, hj, hke⟩
    · exact hr
    · obtain ⟨x, hx, hkx, _⟩ := hkeys e (List.mem_of_getElem? hj)
      rw [hkx] at hke
      cases hke
      exact absurd rfl (hk x hx)
  refine ⟨{ w with heap := w.heap.setIfInBounds m (.map (es.push { key := .int .i64 k, val := v, born := c }) (c + 1)) }, ?_, ?_⟩
  · unfold Instr.mapUpdate
    simp only [Sem.run_bind, run_underlying Tryd.underlying42, Result.andThen, MapKept.run_getObj_map hm, K.check w false (keyWf h0 h1), hf]
    exact MapKept.run_setObj_map _ hm
  · have old : ∀ b (o' : Obj), b ≠ m → w.heap[b]? = some o' → (w.heap.setIfInBounds m (.map (es.push { key := .int .i64 k, val := v, born := c }) (c + 1)))[b]? = some o' := fun b o' hb h => by
      rw [Array.getElem?_setIfInBounds_ne (Ne.symm hb)]; exact h
    have keep : ∀ u l', NeedsAt w0.heap.size w u l' → NeedsAt w0.heap.size { w with heap := w.heap.setIfInBounds m (.map (es.push { key := .int .i64 k, val := v, born := c }) (c + 1)) } u l' := fun u l' hu => hu.old fun b o' hb hno => old b o' (fun e => by subst e; rw [hm] at hb; exact hno es c (Option.some.inj hb).symm) hb
    refine ⟨h.base, h.below.trans ⟨rfl, rfl, rfl, by simp, fun b hb => ?_⟩, es.push { key := .int .i64 k, val := v, born := c }, c + 1, by simp [hlt], by simp [hs], fun i k' l' hi => ?_⟩
    · show (w.heap.setIfInBounds m _)[b]? = _
      rw [Array.getElem?_setIfInBounds_ne (by omega)]
    · by_cases hlast : i < E.length
      · rw [List.getElem?_append_left hlast] at hi
        obtain ⟨e, q1, q2, q3⟩ := he i k' l' hi
        exact ⟨e, by rw [Array.getElem?_push_lt (by omega)]; rw [← q1]; simp [hs, hlast], q2, keep _ _ q3⟩
      · have hi2 : i = E.length := by
          have := (List.getElem?_eq_some_iff.1 hi).1
          simp at this
          omega
        subst hi2
        simp at hi
        obtain ⟨rfl, rfl⟩ := hi
        exact ⟨{ key := .int .i64 k, val := v, born := c }, by rw [← hs]; simp, rfl, keep _ _ hv⟩
/-- Looking up. -/
theorem DT.lookup {w0 w : World} {m : Nat} {E : List (Int × List NeedC)} (h : DT w0 w m E) (hE : ∀ x ∈ E, -9223372036854775808 ≤ x.1 ∧ x.1 ≤ 9223372036854775807) {k : Int} (h0 : -9223372036854775808 ≤ k) (h1 : k ≤ 9223372036854775807) (hz : (zeroValue 26).run Tryd.prog w = .ok (.slice none 0 0) w) :
    ((∀ x ∈ E, x.1 ≠ k) ∧ (Instr.lookup 42 (.map (some m)) (.int .i64 k) false).run Tryd.prog w = .ok (.slice none 0 0) w) ∨ ∃ v l, (k, l) ∈ E ∧ (Instr.lookup 42 (.map (some m)) (.int .i64 k) false).run Tryd.prog w = .ok v w ∧ NeedsAt w0.heap.size w v l := by
  obtain ⟨es, c, hm, hs, he⟩ := h.map
  have K := Maps.int_keyed (P := Tryd.prog) Tryd.underlying29
  have hkeys := DT.keys (w0 := w0) (m := m) hE hs he
  rcases K.find w (keyWf h0 h1) es.toList (fun e hm => by obtain ⟨x, _, _, _, hx⟩ := hkeys e hm; exact ⟨_, hx⟩) with ⟨hr, hno⟩ | ⟨j, e, hr, hj, hke⟩
  · left
    refine ⟨fun x hx hxk => ?_, ?_⟩
    · obtain ⟨i, hi⟩ := List.getElem?_of_mem hx
      obtain ⟨e, q1, q2, _⟩ := he i x.1 x.2 hi
      exact hno e (by have := List.mem_of_getElem? (l := es.toList) (i := i) (a := e) (by simpa using q1); exact this) (by rw [q2, hxk])
    · simp [Instr.lookup, run_underlying Tryd.underlying42, MapKept.run_getObj_map hm, K.check w _ (keyWf h0 h1), hr, hz, Result.andThen]
  · right
    obtain ⟨x, hx, hkx, hN, _⟩ := hkeys e (List.mem_of_getElem? hj)
    rw [hkx] at hke
    cases hke
    refine ⟨e.val, x.2, hx, ?_, hN⟩
    simp [Instr.lookup, run_underlying Tryd.underlying42, MapKept.run_getObj_map hm, K.check w _ (keyWf h0 h1), hr, Result.andThen]
end Go.Proofs
end
section
namespace Go.Proofs
open Go.RowKit
set_option linter.unusedVariables false
set_option linter.unusedSimpArgs false

theorem needs_new1 {B : Nat} {w : World} {b : Nat} (hb : b = w.heap.size) (hB : B ≤ w.heap.size) (a k r : Int) : NeedsAt B (w.alloc (.cells #[.int .i64 a, .int .i64 k, .int .u8 r] 36)) (.slice (some ⟨b, 0, none⟩) 1 1) [⟨a, k, r⟩] := by
  subst hb
  exact ⟨w.heap.size, hB, rfl, (MapKept.heap_alloc w _).1⟩
theorem needs_new2 {B : Nat} {w : World} {b : Nat} (hb : b = w.heap.size) (hB : B ≤ w.heap.size) (a k r a2 k2 r2 : Int) : NeedsAt B (w.alloc (.cells #[.int .i64 a, .int .i64 k, .int .u8 r, .int .i64 a2, .int .i64 k2, .int .u8 r2] 36)) (.slice (some ⟨b, 0, none⟩) 2 2) [⟨a, k, r⟩, ⟨a2, k2, r2⟩] := by
  subst hb
  exact ⟨w.heap.size, hB, rfl, (MapKept.heap_alloc w _).1⟩
/-- .. whose keys are lesser than n. -/
def DTn (w0 w : World) (m : Nat) (E : List (Int × List NeedC)) (n : Int) : Prop := DT w0 w m E ∧ ∀ x ∈ E, 0 ≤ x.1 ∧ x.1 < n
theorem DTn.alloc {w0 w : World} {m : Nat} {E : List (Int × List NeedC)} {n : Int} (h : DTn w0 w m E n) (o : Obj) : DTn w0 (w.alloc o) m E n := ⟨h.1.alloc o, h.2⟩
theorem wpList_insert_dt {w0 w : World} {mb : Nat} {E : List (Int × List NeedC)} {n : Int} (h : DTn w0 w mb E n) {ops : Array Oper} {rest : List Oper} {o : Oper} {a : Act} {Q : Exit → Act → World → Prop}
    (hg : o.guard = none) (m x v : Operand) (hop : o.op = Op.insert 42 m x v) (hm : a.eval m = .map (some mb)) (k : Int) (hx : a.eval x = .int .i64 k) (val : Value) (hv : a.eval v = val) (l : List NeedC) (hN : NeedsAt w0.heap.size w val l)
    (hn : n ≤ k) (hn2 : n ≤ 1000) (h0 : 0 ≤ k) (h1 : k ≤ 1000) (hK : ∀ w', DTn w0 w' mb (E ++ [(k, l)]) (k + 1) → wpList Tryd.prog ops Q rest (a.put o.dst undef) w') : wpList Tryd.prog ops Q (o :: rest) a w := by
  refine wpList_plain hg fun K' hK' => ?_
  obtain ⟨w', hrun, hD⟩ := h.1.insert (fun x hx => by have := h.2 x hx; omega) (k := k) (by omega) (by omega) (fun x hx e => by have := h.2 x hx; omega) hN
  unfold Oper.wp
  simp [execOp, hop, hm, hx, hv, hrun, Result.andThen]
  refine hK' _ _ (hK w' ⟨hD, fun x hx => ?_⟩)
  rcases List.mem_append.1 hx with hx | hx
  · have := h.2 x hx; omega
  · simp at hx; subst hx; exact ⟨h0, by show k < k + 1; omega⟩
/-- What calls demand. -/
def tableE : List (Int × List NeedC) :=
  [(5, [⟨0, 3, 1⟩, ⟨1, 2, 32⟩]), (6, [⟨0, 1, 2⟩]), (7, [⟨0, 1, 4⟩]), (8, [⟨0, 1, 8⟩]), (9, [⟨0, 1, 8⟩]), (10, [⟨0, 1, 16⟩]), (11, [⟨0, 1, 32⟩, ⟨1, 2, 32⟩]), (12, [⟨0, 0, 64⟩]), (13, [⟨0, 0, 64⟩]),
   (14, [⟨0, 0, 0⟩]), (15, [⟨0, 0, 0⟩]), (16, [⟨0, 0, 128⟩]), (17, [⟨0, 1, 32⟩, ⟨1, 0, 64⟩]), (18, [⟨0, 2, 32⟩]), (19, [⟨0, 2, 32⟩, ⟨1, 2, 32⟩]), (20, [⟨0, 3, 1⟩]), (21, [⟨0, 3, 128⟩]), (22, [⟨0, 2, 128⟩])]
set_option maxRecDepth 100000 in
set_option maxHeartbeats 2000000 in
theorem demands_map (w : World) :
    Calls Tryd.prog 13 #[] w fun e w' => e = .returned (.map (some w.heap.size)) ∧ DTn w w' w.heap.size tableE 23 := by
  have hmm := @run_makeMap Tryd.prog
  have hD0 : DTn w (w.alloc (.map #[] 0)) w.heap.size [] 0 := ⟨DT.made w, fun x hx => by simp at hx⟩
  have hD := hD0
  clear hD0
  go_enter Tryd.func13, Tryd.ntmps13
  go_wp2_with (first
    | (go_at_call 17; refine (need_any _ _ _ _).mono ?_; rintro e w' ⟨rfl, rfl⟩)
    | (refine wpList_insert_dt ((hD.alloc _).alloc _) rfl _ _ _ rfl rfl _ rfl _ rfl _ (needs_new1 (by simp) (by have := hD.1.below.size; simp; omega) _ _ _) (by decide) (by decide) (by decide) (by decide) ?_; clear hD; intro w1 hD)
    | (refine wpList_insert_dt (((hD.alloc _).alloc _).alloc _) rfl _ _ _ rfl rfl _ rfl _ rfl _ (needs_new2 (by simp) (by have := hD.1.below.size; simp; omega) _ _ _ _ _ _) (by decide) (by decide) (by decide) (by decide) ?_; clear hD; intro w1 hD))
  go_ret
  exact ⟨rfl, hD⟩
end Go.Proofs
end
