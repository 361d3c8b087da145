import Derived.Shelf.Strings.Builder1
import Derived.Shelf.Strings.BuilderF
import Derived.Shelf.Strings.BuilderK
import Derived.Shelf.Strings.BuilderRune
import Derived.Shelf.Utf8.AppendRune
import Derived.Shelf.Utf8.AppendRunePlain
import Derived.Shelf.Strings.BuilderCap
import Derived.Test.YtdinbalpfgobgaaProg
import Derived.WalkKit
import Derived.BigCall
import Derived.Test.YtdinbalpfgobgaaM1
import Derived.Laws.RangeString
import Derived.Laws.RangeAny
import Derived.Deep.QuietTactic
import Derived.BigRegion
import Derived.IntWalk
import Derived.Laws.AppendOwn
import Derived.Laws.IdiomStrings
import Derived.Laws.BytesString
section
/-
  DERIVED: THE SHELF's CONTRACTS AT THIS DUMP, IN PLAIN WORDS (tools/lay-plain.mjs out of 'TryShelf.lean', which tools/lay-shelf.mjs wrote): THE SAME DECLARATIONS UNDER THE SAME NAMES: 'import', 'namespace', 'open', 'def', 'theorem' AND NOTHING ELSE: no command of the shelf's: FOR A HAND-IN. Each laying: the table of numbers ('.._ren') and one theorem, a field a fact of the dump's own or the kernel's comparison; each contract: ONE APPLICATION.
-/
namespace Go.Proofs
open Go.Shelf
def Try.lays169_ren : Go.Shelf.Ren := ⟨fun | 169 => 19 | n => n, fun | 70 => 44 | 9 => 9 | 0 => 0 | 72 => 47 | 37 => 45 | 127 => 55 | 3 => 3 | 5 => 5 | n => n, fun | n => n⟩
theorem Try.lays169 : Go.Proofs.Lays.n169 Try.prog Try.lays169_ren := {
  mixed := by kernel_rfl
  f169 := Try.func19.trans (congrArg some (by kernel_rfl))
  t0 := Try.underlying0
  a0 := Try.isAgg0
  z0 := Try.sizeOf0
  v0 := Try.zeroValue0
  t3 := Try.underlying3
  a3 := Try.isAgg3
  z3 := Try.sizeOf3
  v3 := Try.zeroValue3
  t9 := Try.underlying9
  a9 := Try.isAgg9
  z9 := Try.sizeOf9
  v9 := Try.zeroValue9
  t37 := Try.underlying45
  a37 := Try.isAgg45
  z37 := Try.sizeOf45
  v37 := Try.zeroValue45
  t70 := Try.underlying44
  a70 := Try.isAgg44
  z70 := Try.sizeOf44
  v70 := Try.zeroValue44
  t72 := Try.underlying47
  a72 := Try.isAgg47
  z72 := Try.sizeOf47
  v72 := Try.zeroValue47
  t127 := Try.underlying55
  a127 := Try.isAgg55
  z127 := Try.sizeOf55
  v127 := Try.zeroValue55 }
theorem Try.Builder_Extra_169 : Builder.Extra Try.prog Try.lays169_ren := {
  sizeBuilder := by kernel_rfl
  liesBuilder := by kernel_rfl
  t5 := Try.underlying5
  a5 := Try.isAgg5
  z5 := Try.sizeOf5
  v5 := Try.zeroValue5
  infoByte := by kernel_rfl
  cellsByte := by kernel_rfl
  sizeByte := by kernel_rfl
  neB5 := by decide }
open Go.RowKit in
/-- (*strings.Builder).String: "String returns the accumulated string.": OF A BUILDER THAT HOLDS AT LEAST ONE BYTE. ✋ THE MODEL FREEZES THOSE BYTES IN THE BUFFER (unsafe.String): a later write INTO them ends the model's run without an answer; a later append BEHIND them goes on. The statement's order of evaluation is drawn: one draw. (LAID: no walk: one application.) -/
theorem Try.Builder_String (B b : Nat) (l : List UInt8) (w : World) (h : Lib.IsBuilder 47 5 B b (Lib.byteCells l) w) (h0 : l ≠ []) :
    Calls Try.prog 19 #[.pointer (some ⟨b, 0, none⟩)] w fun e w' => e = .returned (.string ⟨l.toArray⟩) ∧ Below B w w' := Any.Builder_String Try.lays169 Try.Builder_Extra_169 B b l w h h0
open Go.RowKit in
/-- (*strings.Builder).String OF A BUILDER THAT HOLDS NO BYTE: the empty string. (Its buffer is nil, or a row of which it has taken nothing yet; where that row has NO capacity the model lays one new block for unsafe.SliceData's 'some address'.) One draw. (LAID: no walk: one application.) -/
theorem Try.Builder_String_empty (B b : Nat) (w : World) (h : Lib.IsBuilder 47 5 B b [] w) (hBw : B ≤ w.heap.size) :
    Calls Try.prog 19 #[.pointer (some ⟨b, 0, none⟩)] w fun e w' => e = .returned (.string ⟨#[]⟩) ∧ Below B w w' := Any.Builder_String_empty Try.lays169 Try.Builder_Extra_169 B b w h hBw
open Go.RowKit in
/-- (*strings.Builder).String: "String returns the accumulated string.": WHATEVER THE BUILDER HOLDS. (LAID: no walk: one application.) -/
theorem Try.Builder_String_any (B b : Nat) (l : List UInt8) (w : World) (h : Lib.IsBuilder 47 5 B b (Lib.byteCells l) w) (hBw : B ≤ w.heap.size) :
    Calls Try.prog 19 #[.pointer (some ⟨b, 0, none⟩)] w fun e w' => e = .returned (.string ⟨l.toArray⟩) ∧ Below B w w' := Any.Builder_String_any Try.lays169 Try.Builder_Extra_169 B b l w h hBw
open Go.RowKit in
/-- (*strings.Builder).String: "String returns the accumulated string.": OF A BUILDER THAT HOLDS AT LEAST ONE BYTE. ✋ THE MODEL FREEZES THOSE BYTES IN THE BUFFER (unsafe.String): a later write INTO them ends the model's run without an answer; a later append BEHIND them goes on. The statement's order of evaluation is drawn: one draw. THE FORM '_f': IT SAYS BESIDES THAT THE BUILDER IS A BUILDER STILL ('Lib.IsBuilderF', the same bytes): SO IT CAN BE WRITTEN ON: 'b.WriteString(b.String()[:k])'. (LAID: no walk: one application.) -/
theorem Try.Builder_String_f (B b : Nat) (l : List UInt8) (w : World) (h : Lib.IsBuilderF 47 5 B b (Lib.byteCells l) w) (h0 : l ≠ []) :
    Calls Try.prog 19 #[.pointer (some ⟨b, 0, none⟩)] w fun e w' => e = .returned (.string ⟨l.toArray⟩) ∧ (Lib.IsBuilderF 47 5 B b (Lib.byteCells l) w' ∧ Below B w w') := Any.Builder_String_f Try.lays169 Try.Builder_Extra_169 B b l w h h0
open Go.RowKit in
/-- (*strings.Builder).String OF A BUILDER THAT HOLDS NO BYTE: the empty string; THE FORM '_f': a builder still. (LAID: no walk: one application.) -/
theorem Try.Builder_String_empty_f (B b : Nat) (w : World) (h : Lib.IsBuilderF 47 5 B b [] w) (hBw : B ≤ w.heap.size) :
    Calls Try.prog 19 #[.pointer (some ⟨b, 0, none⟩)] w fun e w' => e = .returned (.string ⟨#[]⟩) ∧ (Lib.IsBuilderF 47 5 B b [] w' ∧ Below B w w') := Any.Builder_String_empty_f Try.lays169 Try.Builder_Extra_169 B b w h hBw
open Go.RowKit in
/-- (*strings.Builder).String: "String returns the accumulated string.": WHATEVER THE BUILDER HOLDS; THE FORM '_f': OF A BUILDER THAT MAY HAVE BEEN READ BEFORE; AND IT IS A BUILDER STILL, holding the same bytes: it can be written on. (LAID: no walk: one application.) -/
theorem Try.Builder_String_any_f (B b : Nat) (l : List UInt8) (w : World) (h : Lib.IsBuilderF 47 5 B b (Lib.byteCells l) w) (hBw : B ≤ w.heap.size) :
    Calls Try.prog 19 #[.pointer (some ⟨b, 0, none⟩)] w fun e w' => e = .returned (.string ⟨l.toArray⟩) ∧ (Lib.IsBuilderF 47 5 B b (Lib.byteCells l) w' ∧ Below B w w') := Any.Builder_String_any_f Try.lays169 Try.Builder_Extra_169 B b l w h hBw
open Go.RowKit in
/-- (*strings.Builder).String: "String returns the accumulated string.": OF A BUILDER THAT HOLDS AT LEAST ONE BYTE. ✋ THE MODEL FREEZES THOSE BYTES IN THE BUFFER (unsafe.String): a later write INTO them ends the model's run without an answer; a later append BEHIND them goes on. The statement's order of evaluation is drawn: one draw. THE FORM '_k': OVER 'Lib.IsBuilderF' (a builder that 'String()' may have read), AND WITH THE FRAME THAT REACHES ABOVE THE BUILDER: 'Lib.OthersKept': every block that is not b and is no row of uint8's stands as it stood: the iterator of a range among them. (LAID: no walk: one application.) -/
theorem Try.Builder_String_k (B b : Nat) (l : List UInt8) (w : World) (h : Lib.IsBuilderF 47 5 B b (Lib.byteCells l) w) (h0 : l ≠ []) :
    Calls Try.prog 19 #[.pointer (some ⟨b, 0, none⟩)] w fun e w' => e = .returned (.string ⟨l.toArray⟩) ∧ (Lib.IsBuilderF 47 5 B b (Lib.byteCells l) w' ∧ Below B w w' ∧ Lib.OthersKept 5 (some b) w w') := Any.Builder_String_k Try.lays169 Try.Builder_Extra_169 B b l w h h0
open Go.RowKit in
/-- (*strings.Builder).String OF A BUILDER THAT HOLDS NO BYTE: the empty string; THE FORM '_k': OVER 'Lib.IsBuilderF' (a builder that 'String()' may have read), AND WITH THE FRAME THAT REACHES ABOVE THE BUILDER: 'Lib.OthersKept': every block that is not b and is no row of uint8's stands as it stood: the iterator of a range among them. (LAID: no walk: one application.) -/
theorem Try.Builder_String_empty_k (B b : Nat) (w : World) (h : Lib.IsBuilderF 47 5 B b [] w) (hBw : B ≤ w.heap.size) :
    Calls Try.prog 19 #[.pointer (some ⟨b, 0, none⟩)] w fun e w' => e = .returned (.string ⟨#[]⟩) ∧ (Lib.IsBuilderF 47 5 B b [] w' ∧ Below B w w' ∧ Lib.OthersKept 5 (some b) w w') := Any.Builder_String_empty_k Try.lays169 Try.Builder_Extra_169 B b w h hBw
open Go.RowKit in
/-- (*strings.Builder).String: "String returns the accumulated string.": WHATEVER THE BUILDER HOLDS; THE FORM '_k': OVER 'Lib.IsBuilderF' (a builder that 'String()' may have read), AND WITH THE FRAME THAT REACHES ABOVE THE BUILDER: 'Lib.OthersKept': every block that is not b and is no row of uint8's stands as it stood: the iterator of a range among them. (LAID: no walk: one application.) -/
theorem Try.Builder_String_any_k (B b : Nat) (l : List UInt8) (w : World) (h : Lib.IsBuilderF 47 5 B b (Lib.byteCells l) w) (hBw : B ≤ w.heap.size) :
    Calls Try.prog 19 #[.pointer (some ⟨b, 0, none⟩)] w fun e w' => e = .returned (.string ⟨l.toArray⟩) ∧ (Lib.IsBuilderF 47 5 B b (Lib.byteCells l) w' ∧ Below B w w' ∧ Lib.OthersKept 5 (some b) w w') := Any.Builder_String_any_k Try.lays169 Try.Builder_Extra_169 B b l w h hBw
def Try.lays278_ren : Go.Shelf.Ren := ⟨fun | 278 => 23 | n => n, fun | 37 => 45 | 21 => 21 | 51 => 58 | 4 => 4 | 46 => 59 | 5 => 5 | n => n, fun | n => n⟩
theorem Try.lays278 : Go.Proofs.Lays.n278 Try.prog Try.lays278_ren := {
  mixed := by kernel_rfl
  f278 := Try.func23.trans (congrArg some (by kernel_rfl))
  t4 := Try.underlying4
  a4 := Try.isAgg4
  z4 := Try.sizeOf4
  v4 := Try.zeroValue4
  t5 := Try.underlying5
  a5 := Try.isAgg5
  z5 := Try.sizeOf5
  v5 := Try.zeroValue5
  t21 := Try.underlying21
  a21 := Try.isAgg21
  z21 := Try.sizeOf21
  v21 := Try.zeroValue21
  t37 := Try.underlying45
  a37 := Try.isAgg45
  z37 := Try.sizeOf45
  v37 := Try.zeroValue45
  t46 := Try.underlying59
  a46 := Try.isAgg59
  z46 := Try.sizeOf59
  v46 := Try.zeroValue59
  t51 := Try.underlying58
  a51 := Try.isAgg58
  z51 := Try.sizeOf58
  v51 := Try.zeroValue58 }
open Go.RowKit in
/-- unicode/utf8.appendRuneNonASCII (what AppendRune calls for all but ASCII), ONTO A ROW OF BYTES THAT THE CALL OWNS: every int32 that is no ASCII rune: 'Lib.runeCells r' goes in behind what the row holds. (LAID: no walk: one application.) -/
theorem Try.utf8_appendRuneNonASCII_row (B : Nat) (v : Value) (n : Nat) (xs : List Value) (r : Int) (hr0 : -2147483648 ≤ r) (hr1 : r ≤ 2147483647) (hna : r < 0 ∨ 128 ≤ r) (w : World) (hown : w.ownsRowF B 5 1 v n xs) (hlen : n + 4 ≤ 140737488355328) (hBw : B ≤ w.heap.size) :
    Calls Try.prog 23 #[v, .int .i32 r] w fun e w' => ∃ v', e = .returned v' ∧ w'.ownsRowF B 5 1 v' (n + (Lib.runeCells r).length) (xs ++ Lib.runeCells r) ∧ ∃ o, (w.alloc o).grownBy w' v.ownBlock := Any.utf8_appendRuneNonASCII_row Try.lays278 (by kernel_rfl) B v n xs r hr0 hr1 hna w hown hlen hBw
def Try.lays242_ren : Go.Shelf.Ren := ⟨fun | 242 => 21 | 278 => 23 | n => n, fun | 37 => 45 | 21 => 21 | 51 => 58 | 4 => 4 | 5 => 5 | 46 => 59 | n => n, fun | n => n⟩
theorem Try.lays242 : Go.Proofs.Lays.n242 Try.prog Try.lays242_ren := {
  mixed := by kernel_rfl
  f242 := Try.func21.trans (congrArg some (by kernel_rfl))
  f278 := Try.func23.trans (congrArg some (by kernel_rfl))
  t4 := Try.underlying4
  a4 := Try.isAgg4
  z4 := Try.sizeOf4
  v4 := Try.zeroValue4
  t5 := Try.underlying5
  a5 := Try.isAgg5
  z5 := Try.sizeOf5
  v5 := Try.zeroValue5
  t21 := Try.underlying21
  a21 := Try.isAgg21
  z21 := Try.sizeOf21
  v21 := Try.zeroValue21
  t37 := Try.underlying45
  a37 := Try.isAgg45
  z37 := Try.sizeOf45
  v37 := Try.zeroValue45
  t46 := Try.underlying59
  a46 := Try.isAgg59
  z46 := Try.sizeOf59
  v46 := Try.zeroValue59
  t51 := Try.underlying58
  a51 := Try.isAgg58
  z51 := Try.sizeOf58
  v51 := Try.zeroValue58 }
open Go.RowKit in
/-- unicode/utf8.AppendRune: "AppendRune appends the UTF-8 encoding of r to the end of p and returns the extended buffer. If the rune is out of range, it appends the encoding of RuneError.": ONTO A ROW OF BYTES THAT THE CALL OWNS (its head frozen or not): EVERY int32: 'Lib.runeCells r' goes in behind what the row holds; the world: one new block (the bytes as the call's variadic argument), then what 'append' does to the row. (LAID: no walk: one application.) -/
theorem Try.utf8_AppendRune_row (B : Nat) (v : Value) (n : Nat) (xs : List Value) (r : Int) (hr0 : -2147483648 ≤ r) (hr1 : r ≤ 2147483647) (w : World) (hown : w.ownsRowF B 5 1 v n xs) (hlen : n + 4 ≤ 140737488355328) (hBw : B ≤ w.heap.size) :
    Calls Try.prog 21 #[v, .int .i32 r] w fun e w' => ∃ v', e = .returned v' ∧ w'.ownsRowF B 5 1 v' (n + (Lib.runeCells r).length) (xs ++ Lib.runeCells r) ∧ ∃ o, (w.alloc o).grownBy w' v.ownBlock := Any.utf8_AppendRune_row Try.lays242 (by kernel_rfl) B v n xs r hr0 hr1 w hown hlen hBw
open Go.RowKit in
/-- unicode/utf8.appendRuneNonASCII (what AppendRune calls for all but ASCII), ONTO A ROW OF BYTES THAT THE CALL OWNS: every int32 that is no ASCII rune: 'Lib.runeCells r' goes in behind what the row holds. (LAID: no walk: one application.) -/
theorem Try.utf8_appendRuneNonASCII_plain (B : Nat) (v : Value) (n : Nat) (xs : List Value) (r : Int) (hr0 : -2147483648 ≤ r) (hr1 : r ≤ 2147483647) (hna : r < 0 ∨ 128 ≤ r) (w : World) (hown : w.ownsRow B 5 1 v n xs) (hlen : n + 4 ≤ 140737488355328) (hBw : B ≤ w.heap.size) :
    Calls Try.prog 23 #[v, .int .i32 r] w fun e w' => ∃ v', e = .returned v' ∧ w'.ownsRow B 5 1 v' (n + (Lib.runeCells r).length) (xs ++ Lib.runeCells r) ∧ ∃ o, (w.alloc o).grownBy w' v.ownBlock := Any.utf8_appendRuneNonASCII_plain Try.lays278 (by kernel_rfl) B v n xs r hr0 hr1 hna w hown hlen hBw
open Go.RowKit in
/-- unicode/utf8.AppendRune: "AppendRune appends the UTF-8 encoding of r to the end of p and returns the extended buffer. If the rune is out of range, it appends the encoding of RuneError.": ONTO A ROW OF BYTES THAT THE CALL OWNS (its head frozen or not): EVERY int32: 'Lib.runeCells r' goes in behind what the row holds; the world: one new block (the bytes as the call's variadic argument), then what 'append' does to the row. (LAID: no walk: one application.) -/
theorem Try.utf8_AppendRune_plain (B : Nat) (v : Value) (n : Nat) (xs : List Value) (r : Int) (hr0 : -2147483648 ≤ r) (hr1 : r ≤ 2147483647) (w : World) (hown : w.ownsRow B 5 1 v n xs) (hlen : n + 4 ≤ 140737488355328) (hBw : B ≤ w.heap.size) :
    Calls Try.prog 21 #[v, .int .i32 r] w fun e w' => ∃ v', e = .returned v' ∧ w'.ownsRow B 5 1 v' (n + (Lib.runeCells r).length) (xs ++ Lib.runeCells r) ∧ ∃ o, (w.alloc o).grownBy w' v.ownBlock := Any.utf8_AppendRune_plain Try.lays242 (by kernel_rfl) B v n xs r hr0 hr1 w hown hlen hBw
end Go.Proofs
end
section
namespace Go.Proofs
open Go.RowKit Go.Shelf
set_option linter.unusedVariables false

/-! ### strings.Builder's copyCheck and WriteRune: the shelf's own can't be laid here, since the arm that panics is refused in this translation -/
theorem builderSize : (Try.prog.info? 47).map (·.size) = some 2 := by kernel_rfl
theorem builderLies : liesAt Try.prog Try.prog.depth 47 (2 / Try.prog.cellsOf 47) 0 47 1 = true := by kernel_rfl
set_option maxHeartbeats 1000000 in
set_option maxRecDepth 100000 in
theorem copyCheck_used (b : Nat) (w : World) (h0 : w.cell? ⟨b, 0, none⟩ = some (.pointer (some ⟨b, 0, none⟩))) :
    Calls Try.prog 20 #[.pointer (some ⟨b, 0, none⟩)] w fun e w' => e = .returned (.tuple #[]) ∧ w' = w := by
  obtain ⟨j, hj, _⟩ := Option.map_eq_some_iff.1 builderSize
  go_enter Try.func20, Try.ntmps20
  go_wp2
  rw [Lib.run_neq_ptr_same w _ Try.underlying44 hj]
  go_wp2
  go_end0
  exact ⟨rfl, rfl⟩

set_option maxHeartbeats 1000000 in
set_option maxRecDepth 100000 in
theorem copyCheck_fresh (b : Nat) (w : World) (h0 : w.cell? ⟨b, 0, none⟩ = some (.pointer none)) (hsh : w.shape? b = some (47, 2)) (hfz : w.frozen? ⟨b, 0, none⟩ = false) :
    Calls Try.prog 20 #[.pointer (some ⟨b, 0, none⟩)] w fun e w' => e = .returned (.tuple #[]) ∧ w' = w.setCell ⟨b, 0, none⟩ (.pointer (some ⟨b, 0, none⟩)) := by
  obtain ⟨j, hj, hjs⟩ := Option.map_eq_some_iff.1 builderSize
  go_enter Try.func20, Try.ntmps20
  go_wp2
  rw [Lib.run_to_unsafe w ⟨b, 0, none⟩ Try.underlying44 Try.underlying56 hj (by rw [hjs]; decide) hsh (Nat.zero_lt_succ 1)]
  simp only [Result.andThen]
  rw [Oper.upon_value]
  go_wp2
  rw [run_callFunc_extern Try.func22 (by kernel_rfl) (by kernel_rfl) (by kernel_rfl) (e := Extern.AbiNoEscape.same) (by kernel_rfl)]
  rw [Lib.run_noEscape]
  simp only [Result.andThen]
  rw [Oper.upon_value]
  go_wp2
  rw [Lib.run_from_unsafe w ⟨b, 0, none⟩ Try.underlying56 Try.underlying44 hj hsh builderLies]
  simp only [Result.andThen]
  rw [Oper.upon_value]
  go_wp2
  go_end0
  exact ⟨rfl, rfl⟩

theorem copyCheck_k (B b : Nat) (bs : List Value) (w : World) (h : Lib.IsBuilderF 47 5 B b bs w) :
    Calls Try.prog 20 #[.pointer (some ⟨b, 0, none⟩)] w fun e w' => e = .returned (.tuple #[]) ∧ (Lib.BuilderAtF 47 5 B b (.pointer (some ⟨b, 0, none⟩)) bs w' ∧ Below B w w' ∧ Lib.OthersKept 5 (some b) w w') := by
  rcases h with h | h
  · refine (copyCheck_fresh b w h.cell0 h.shape h.frozen0).mono ?_
    rintro e w' ⟨rfl, rfl⟩
    exact ⟨rfl, h.used _, (Below.refl B w).setCell (p := ⟨b, 0, none⟩) h.1 _, (Lib.OthersKept.refl _ _ w).setCell ⟨b, 0, none⟩ rfl _⟩
  · refine (copyCheck_used b w h.cell0).mono ?_
    rintro e w' ⟨rfl, rfl⟩
    exact ⟨rfl, h, Below.refl B _, Lib.OthersKept.refl _ _ _⟩

set_option maxHeartbeats 4000000 in
set_option maxRecDepth 100000 in
/-- WriteRune. -/
theorem writeRune_k (B b : Nat) (bs : List Value) (r : Int) (hr0 : -2147483648 ≤ r) (hr1 : r ≤ 2147483647) (w : World) (h : Lib.IsBuilderF 47 5 B b bs w) (hlen : bs.length + 4 ≤ 140737488355328) (hBw : B ≤ w.heap.size) :
    Calls Try.prog 18 #[.pointer (some ⟨b, 0, none⟩), .int .i32 r] w fun e w' => e = .returned (.tuple #[.int .i64 (Lib.runeCells r).length, .nilIface]) ∧ (Lib.BuilderAtF 47 5 B b (.pointer (some ⟨b, 0, none⟩)) (bs ++ Lib.runeCells r) w' ∧ Below B w w' ∧ Lib.OthersKept 5 (some b) w w') := by
  have hk4 := Lib.runeCells_le r
  go_enter Try.func18, Try.ntmps18
  go_wp2_with (go_at_call 20; refine (copyCheck_k B b bs _ h).mono ?_)
  rintro e w1 ⟨rfl, h1, hb1, hk1⟩
  obtain ⟨hB, v, hbk, hown, hne⟩ := h1
  obtain ⟨ao, cap, rfl⟩ : ∃ ao cap, v = .slice ao bs.length cap := by
    rcases hown.2 with ⟨hv, h0⟩ | ⟨g, cap, cur, fz, hv, _⟩
    · exact ⟨none, 0, by rw [hv, h0]⟩
    · exact ⟨_, _, hv⟩
  have c0 : w1.cell? ⟨b, 0, none⟩ = some (.pointer (some ⟨b, 0, none⟩)) := by rw [Lib.cell_of_heap hbk]; rfl
  have c1 : w1.cell? ⟨b, 1, none⟩ = some (.slice ao bs.length cap) := by rw [Lib.cell_of_heap hbk]; rfl
  go_wp2_with (go_at_call 21; refine (Try.utf8_AppendRune_row B _ bs.length bs r hr0 hr1 _ hown hlen (by have := hb1.size; omega)).mono ?_)
  rintro e w2 ⟨v', rfl, hown', o, hgrow⟩
  have hlt : b < w1.heap.size := by
    rcases Nat.lt_or_ge b w1.heap.size with h' | h'
    · exact h'
    · simp [Array.getElem?_eq_none h'] at hbk
  have hb2 : w2.heap[b]? = some (.cells #[.pointer (some ⟨b, 0, none⟩), .slice ao bs.length cap] 47 (0, 0)) := by
    rw [hgrow.block b (by simp; omega) (fun e => hne e.symm), Lib.alloc_old w1 _ b hlt]
    exact hbk
  have d0 : w2.cell? ⟨b, 0, none⟩ = some (.pointer (some ⟨b, 0, none⟩)) := by rw [Lib.cell_of_heap hb2]; rfl
  have d1 : w2.cell? ⟨b, 1, none⟩ = some (.slice ao bs.length cap) := by rw [Lib.cell_of_heap hb2]; rfl
  have f1 : w2.frozen? ⟨b, 1, none⟩ = false := Lib.frozen_of_heap hb2 1
  obtain ⟨g, cap', rfl⟩ : ∃ g cap', v' = .slice (some ⟨g, 0, none⟩) (bs.length + (Lib.runeCells r).length) cap' := by
    rcases hown'.2 with ⟨_, h0⟩ | ⟨g, cap', cur, fz, hv, _⟩
    · omega
    · exact ⟨g, cap', hv⟩
  go_wp2
  go_ret2
  refine ⟨?_, ?_, ?_, ((hk1.alloc _).grown hgrow (Lib.ownsRowF_kind (hown.alloc _))).setCell ⟨b, 1, none⟩ rfl _⟩
  · have e : ((bs.length : Int) + ((Lib.runeCells r).length : Int) - (bs.length : Int)) = ((Lib.runeCells r).length : Int) := by omega
    simp [e]
  · exact Lib.BuilderAtF.put (T := 47) (e := 5) hB hb2 (bs' := bs ++ Lib.runeCells r) (by simpa using hown') (by decide)
  · exact ((hb1.alloc (by have := hb1.size; omega) _).grown hgrow (by have := hb1.size; simp; omega) (fun k hk => (hown.lt k hk).1)).setCell (p := ⟨b, 1, none⟩) hB _
end Go.Proofs
end
section
namespace Go.Proofs
open Go.RowKit
set_option linter.unusedVariables false

/-! ### Texts -/
abbrev lettersB : ByteArray := { data := #[115, 119, 107, 117, 97, 100, 109, 114] }
def lettersL : List UInt8 := [115, 119, 107, 117, 97, 100, 109, 114]
def txtAt (r i : Nat) : UInt8 := if r.testBit i then lettersL.getD i 45 else 45
def txtTo (r n : Nat) : List UInt8 := (List.range n).map (txtAt r)
def txt (r : Nat) : List UInt8 := txtTo r 8
theorem txtTo_succ (r n : Nat) : txtTo r (n + 1) = txtTo r n ++ [txtAt r n] := by unfold txtTo; rw [List.range_succ, List.map_append]; rfl
theorem txtTo_length (r n : Nat) : (txtTo r n).length = n := by unfold txtTo; simp
theorem letter_ascii : ∀ p : Fin 8, (lettersL.getD p.val 45).toNat < 128 := by decide
theorem letter_get : ∀ p : Fin 8, (lettersB[p.val]'(by show p.val < 8; exact p.isLt)) = lettersL.getD p.val 45 := by decide
theorem and_bit {r p : Nat} (hr : r < 256) (hp : p < 8) : (bits BinOp.and IntKind.u8 ((r : Nat) : Int) (pwN p) == 0) = !r.testBit p := by
  have h2 : 2 ^ p < 256 := Nat.pow_lt_pow_right (a := 2) (by omega) (show p < 8 from hp)
  have hpos : 0 < 2 ^ p := Nat.pow_pos (by omega)
  rw [show pwN p = ((2 ^ p : Nat) : Int) from rfl, u8_and_nat r (2 ^ p) hr h2]
  cases hb : r.testBit p
  · have : r &&& 2 ^ p = 0 := by
      apply Nat.eq_of_testBit_eq
      intro i
      rw [Nat.testBit_and, Nat.zero_testBit, Nat.testBit_two_pow]
      by_cases hi : p = i
      · subst hi; rw [hb]; rfl
      · simp [hi]
    rw [this]; rfl
  · have : r &&& 2 ^ p ≠ 0 := fun e => by
      have := congrArg (fun x => Nat.testBit x p) e
      simp [Nat.testBit_and, hb] at this
    simp only [Bool.not_true, beq_eq_false_iff_ne, ne_eq]
    omega
theorem runeCells_ascii {n : Nat} (h : n < 128) : Lib.runeCells (n : Int) = [.int .u8 n] := by
  simp [Lib.runeCells, Lib.encodeRuneZ_one (r := (n : Int)) (by omega) (by omega)]
theorem byteCells_one (b : UInt8) : Lib.byteCells [b] = [.int .u8 b.toNat] := rfl

set_option maxHeartbeats 4000000 in
set_option maxRecDepth 1000000 in
/-- Text. -/
theorem text_any (r : Nat) (hr : r < 256) (w : World) :
    Calls Try.prog 12 #[.int .u8 r] w fun e w' => e = .returned (.string ⟨(txt r).toArray⟩) ∧ Below w.heap.size w w' := by
  go_enter Try.func12, Try.ntmps12
  go_wp2
  go_loopw [] (fun wr => ∃ (pos : Nat), pos ≤ 8 ∧ Lib.IsBuilderF 47 5 w.heap.size w.heap.size (Lib.byteCells (txtTo r pos)) wr ∧ wr.heap[w.heap.size + 1]? = some (.stringIter lettersB pos) ∧ Below w.heap.size w wr) (fun wr => 8 - wr.iterPos (w.heap.size + 1))
  case atStart =>
    refine ⟨0, by omega, (Lib.IsBuilderF.of (Lib.fresh_isBuilder 47 5 w)).alloc _, ?_, ((Below.refl _ w).alloc (Nat.le_refl _) _).alloc (by simp) _⟩
    have := World.iter_heap (w.alloc (.cells #[.pointer none, .slice none 0 0] 47)) lettersB 0
    simpa using this
  case round =>
    obtain ⟨pos, hpos, hI, hit, hbw⟩ := hrel
    have hsz : w.heap.size + 1 < wr.heap.size := (Array.getElem?_eq_some_iff.1 hit).1
    by_cases hp : pos < 8
    · have hlt : (lettersL.getD pos 45).toNat < 128 := letter_ascii ⟨pos, hp⟩
      have hget := letter_get ⟨pos, hp⟩
      simp only at hget
      obtain ⟨c, hc⟩ : ∃ c, c = (lettersL.getD pos 45).toNat := ⟨_, rfl⟩
      have hnx : ∀ ty, (Instr.next (.pointer (some ⟨w.heap.size + 1, 0, none⟩)) true ty).run Try.prog wr = .ok (.tuple #[.bool true, .int .i64 pos, .int .i32 c]) (wr.iterAt (w.heap.size + 1) lettersB (pos + 1)) := fun ty => by
        rw [Lib.run_next_ascii_at wr (w.heap.size + 1) lettersB pos ty hit hp (by rw [hget]; exact hlt), hget, ← hc]
      have hI2 := hI.iterAt hit (pos + 1)
      have hit2 := Lib.iterAt_heap wr (w.heap.size + 1) lettersB pos (pos + 1) hit
      have hbw2 := Lib.below_iterAt hbw (k := w.heap.size + 1) (by omega) lettersB (pos + 1)
      have hsz2 : w.heap.size ≤ (wr.iterAt (w.heap.size + 1) lettersB (pos + 1)).heap.size := by rw [Lib.iterAt_size]; omega
      rw [← hc] at hlt
      have hcH := Lib.hid hc
      clear hc
      have hA := and_bit hr hp
      cases hbit : r.testBit pos
      · rw [hbit] at hA
        have hz : txtAt r pos = 45 := by unfold txtAt; rw [hbit]; rfl
        go_wp2_with (go_at_call 17; refine (right_any pos hp _).mono ?_; rintro e w' ⟨rfl, rfl⟩)
        go_wp2_with (go_at_call 18; refine (writeRune_k w.heap.size w.heap.size _ 45 (by omega) (by omega) _ hI2 (by rw [Lib.byteCells_length, txtTo_length]; omega) hsz2).mono ?_)
        rintro e W1 ⟨rfl, h1, b1, k1⟩
        go_wp2
        go_roundw
        case rel =>
          refine ⟨pos + 1, by omega, ?_, k1.iter hit2 (by omega), hbw2.trans b1⟩
          rw [txtTo_succ, Lib.byteCells_append, hz, byteCells_one]
          exact Or.inr h1
        case measure =>
          simp only [World.iterPos, k1.iter hit2 (by omega), hit]
          omega
      · rw [hbit] at hA
        have hz : txtAt r pos = lettersL.getD pos 45 := by unfold txtAt; rw [hbit]; rfl
        go_wp2_with (go_at_call 17; refine (right_any pos hp _).mono ?_; rintro e w' ⟨rfl, rfl⟩)
        go_wp2_with (go_at_call 18; refine (writeRune_k w.heap.size w.heap.size _ c (by omega) (by omega) _ hI2 (by rw [Lib.byteCells_length, txtTo_length]; omega) hsz2).mono ?_)
        rintro e W1 ⟨rfl, h1, b1, k1⟩
        go_wp2
        go_roundw
        case rel =>
          refine ⟨pos + 1, by omega, ?_, k1.iter hit2 (by omega), hbw2.trans b1⟩
          rw [runeCells_ascii hlt] at h1
          rw [txtTo_succ, Lib.byteCells_append, hz, byteCells_one, ← hcH.out]
          exact Or.inr h1
        case measure =>
          simp only [World.iterPos, k1.iter hit2 (by omega), hit]
          omega
    · obtain rfl : pos = 8 := by omega
      have hnx : ∀ ty, (Instr.next (.pointer (some ⟨w.heap.size + 1, 0, none⟩)) true ty).run Try.prog wr = _ := fun ty => Lib.run_next_end_at wr (w.heap.size + 1) lettersB 8 ty hit (by decide)
      go_wp2_with (go_at_call 19; refine (Try.Builder_String_any_k w.heap.size w.heap.size (txtTo r 8) _ hI (by omega)).mono ?_)
      rintro e W1 ⟨rfl, _, b1, _⟩
      go_wp2
      go_ret
      exact ⟨rfl, hbw.trans b1⟩
end Go.Proofs
end
section
namespace Go.Proofs
open Go.RowKit
set_option linter.unusedVariables false

/-! ### What a text is read as -/
def unAt (l : List UInt8) (i : Nat) : Nat := if l[i]? = some (lettersL.getD i 45) then 2 ^ i else 0
def unTo (l : List UInt8) : Nat → Nat
  | 0 => 0
  | n + 1 => unTo l n + unAt l n
theorem unTo_lt (l : List UInt8) (n : Nat) : unTo l n < 2 ^ n := by
  induction n with
  | zero => simp [unTo]
  | succ n ih =>
    have : 2 ^ (n + 1) = 2 ^ n * 2 := Nat.pow_succ ..
    unfold unTo unAt
    split <;> omega
theorem unTo_lt8 (l : List UInt8) (n : Nat) (h : n ≤ 8) : unTo l n < 256 := Nat.lt_of_lt_of_le (unTo_lt l n) (Nat.pow_le_pow_right (n := 2) (by omega) h)
theorem unTo_bit (l : List UInt8) : ∀ n i, i < n → (unTo l n).testBit i = decide (l[i]? = some (lettersL.getD i 45))
  | n + 1, i, h => by
    unfold unTo
    by_cases hi : i = n
    · subst hi
      unfold unAt
      split
      · rename_i hc
        rw [Nat.add_comm, Nat.testBit_two_pow_add_eq, Nat.testBit_lt_two_pow (unTo_lt l i), decide_eq_true hc]; rfl
      · rename_i hc
        rw [Nat.add_zero, Nat.testBit_lt_two_pow (unTo_lt l i), decide_eq_false hc]
    · have ih := unTo_bit l n i (by omega)
      unfold unAt
      split
      · rw [Nat.add_comm, Nat.testBit_two_pow_add_gt (by omega), ih]
      · rw [Nat.add_zero, ih]
/-- The rights of a text, and is it one's? -/
def ofB (l : List UInt8) : Bool := decide (txt (unTo l 8) = l)
def ofN (l : List UInt8) : Nat := if ofB l then unTo l 8 else 0
theorem unTo_txt : ∀ r : Fin 256, unTo (txt r.val) 8 = r.val := by decide +kernel
theorem of_yes {l : List UInt8} {r : Nat} (hr : r < 256) (h : txt r = l) : ofB l = true ∧ ofN l = r := by
  subst h
  have e := unTo_txt ⟨r, hr⟩
  simp only at e
  have hB : ofB (txt r) = true := by unfold ofB; rw [e]; simp
  exact ⟨hB, by unfold ofN; rw [hB, if_pos rfl, e]⟩
theorem of_no {l : List UInt8} (h : ∀ r, r < 256 → txt r ≠ l) : ofB l = false ∧ ofN l = 0 := by
  have hB : ofB l = false := by unfold ofB; exact decide_eq_false (h _ (unTo_lt8 l 8 (by omega)))
  exact ⟨hB, by unfold ofN; rw [hB]; rfl⟩
theorem txt_at (r i : Nat) (hi : i < 8) : (txt r)[i]? = some (txtAt r i) := by unfold txt txtTo; simp [hi]
theorem txt_length (r : Nat) : (txt r).length = 8 := txtTo_length r 8
theorem of_len {l : List UInt8} (h : l.length ≠ 8) : ofB l = false ∧ ofN l = 0 := of_no fun r _ e => h (by rw [← e, txt_length])
theorem of_bad {l : List UInt8} {i : Nat} {x : UInt8} (hi : i < 8) (hx : l[i]? = some x) (h0 : x ≠ 45) (h1 : x ≠ lettersL.getD i 45) : ofB l = false ∧ ofN l = 0 := of_no fun r _ e => by
  rw [← e, txt_at r i hi] at hx
  unfold txtAt at hx
  split at hx
  · exact h1 (Option.some.inj hx).symm
  · exact h0 (Option.some.inj hx).symm
theorem of_good {l : List UInt8} (hl : l.length = 8) (h : ∀ i, i < 8 → l[i]? = some 45 ∨ l[i]? = some (lettersL.getD i 45)) : ofB l = true ∧ ofN l = unTo l 8 := by
  refine of_yes (unTo_lt8 l 8 (by omega)) ?_
  apply List.ext_getElem?
  intro i
  by_cases hi : i < 8
  · rw [txt_at _ i hi]
    unfold txtAt
    rw [unTo_bit l 8 i hi]
    by_cases hc : l[i]? = some (lettersL.getD i 45)
    · rw [decide_eq_true hc, if_pos rfl, hc]
    · rw [decide_eq_false hc, (h i hi).resolve_right hc]; rfl
  · rw [List.getElem?_eq_none (by rw [txt_length]; omega), List.getElem?_eq_none (by omega)]
theorem or_in {a i : Nat} (hi : i < 8) (ha : a < 2 ^ i) : bits BinOp.or IntKind.u8 ((a : Nat) : Int) (pwN i) = ((a + 2 ^ i : Nat) : Int) := by
  have h2 : 2 ^ i < 256 := Nat.pow_lt_pow_right (a := 2) (by omega) (show i < 8 from hi)
  rw [show pwN i = ((2 ^ i : Nat) : Int) from rfl, u8_or_nat a (2 ^ i) (by omega) h2, Nat.or_comm, Nat.add_comm]
  have := Nat.two_pow_add_eq_or_of_lt ha 1
  rw [Nat.mul_one] at this
  rw [this]

theorem getByte (s : ByteArray) (i : Nat) (h : i < s.size) : s.data.toList[i]? = some (s[i]'h) := by
  have : i < s.data.toList.length := by simpa using h
  rw [List.getElem?_eq_getElem this]
  rfl
end Go.Proofs
end
section
namespace Go.Proofs
open Go.RowKit
set_option linter.unusedVariables false

/-! ### OfText -/
theorem letter_ne (i : Nat) (hi : i < 8) : lettersL.getD i 45 ≠ 45 ∧ (lettersL.getD i 45).toNat < 128 ∧ lettersB[i]'(show i < 8 from hi) = lettersL.getD i 45 := by
  have : ∀ p : Fin 8, lettersL.getD p.val 45 ≠ 45 ∧ (lettersL.getD p.val 45).toNat < 128 ∧ lettersB[p.val]'(show p.val < 8 from p.isLt) = lettersL.getD p.val 45 := by decide
  exact this ⟨i, hi⟩
/-- What stands ahead is known. -/
def Good (l : List UInt8) (n : Nat) : Prop := ∀ i, i < n → l[i]? = some 45 ∨ l[i]? = some (lettersL.getD i 45)
theorem Good.next {l : List UInt8} {n : Nat} (h : Good l n) (h1 : l[n]? = some 45 ∨ l[n]? = some (lettersL.getD n 45)) : Good l (n + 1) := fun i hi => by
  by_cases e : i = n
  · subst e; exact h1
  · exact h i (by omega)

theorem index_letter (i c : Nat) (hi : i < 8) (hc : c = (lettersL.getD i 45).toNat) (w : World) : (Instr.index 9 (.string lettersB) (.int .i64 i)).run Try.prog w = .ok (.int .u8 c) w := by
  rw [run_index_string w 9 lettersB .i64 i Try.underlying9]
  have h : (0 : Int) ≤ (i : Int) ∧ (i : Int) < lettersB.size := ⟨by omega, by show (i : Int) < 8; omega⟩
  rw [dif_pos h]
  have := (letter_ne i hi).2.2
  rw [hc, ← this]
  rfl

set_option maxHeartbeats 4000000 in
set_option maxRecDepth 1000000 in
theorem ofText_any (s : ByteArray) (w : World) :
    Calls Try.prog 13 #[.string s] w fun e w' => e = .returned (.tuple #[.int .u8 (ofN s.data.toList), .bool (ofB s.data.toList)]) ∧ Below w.heap.size w w' := by
  by_cases h8 : s.size = 8
  · have hl8 : s.data.toList.length = 8 := by rw [← h8]; rfl
    obtain ⟨l, hl⟩ : ∃ l, l = s.data.toList := ⟨_, rfl⟩
    have hlH := Lib.hid hl
    rw [← hl] at hl8 ⊢
    have hl8H := Lib.hid hl8
    clear hl hl8
    go_enter Try.func13, Try.ntmps13
    go_wp2
    go_loopw [4] (fun r wr => ∃ (pos : Nat), pos ≤ 8 ∧ r = .int .u8 (unTo l pos : Nat) ∧ wr.heap[w.heap.size]? = some (.stringIter s pos) ∧ Below w.heap.size w wr ∧ Good l pos) (fun _ wr => 8 - wr.iterPos w.heap.size)
    case atStart => exact ⟨0, by omega, rfl, World.iter_heap w s 0, (Below.refl _ w).alloc (Nat.le_refl _) _, fun i hi => absurd hi (by omega)⟩
    case round =>
      obtain ⟨pos, hpos, rfl, hit, hbw, hG⟩ := hrel
      have hsz : w.heap.size < wr.heap.size := (Array.getElem?_eq_some_iff.1 hit).1
      by_cases hp : pos < 8
      · have hps : pos < s.size := by omega
        have hx := getByte s pos hps
        rw [← hlH.out] at hx
        obtain ⟨x, hxe⟩ : ∃ x, x = s[pos]'hps := ⟨_, rfl⟩
        rw [← hxe] at hx
        obtain ⟨hn45, hlt, _⟩ := letter_ne pos hp
        obtain ⟨c, hc⟩ : ∃ c, c = (lettersL.getD pos 45).toNat := ⟨_, rfl⟩
        have hix := index_letter pos c hp hc
        have hit2 := fun k => Lib.iterAt_heap wr w.heap.size s pos k hit
        have hbw2 := fun k => Lib.below_iterAt hbw (k := w.heap.size) (by omega) s k
        have hc45 : c ≠ 45 := fun e => hn45 (UInt8.toNat_inj.1 (by rw [← hc, e]; rfl))
        rw [← hc] at hlt
        have hcH := Lib.hid hc
        clear hc
        by_cases h45 : x = 45
        · have hnx : ∀ ty, (Instr.next (.pointer (some ⟨w.heap.size, 0, none⟩)) true ty).run Try.prog wr = .ok (.tuple #[.bool true, .int .i64 pos, .int .i32 45]) (wr.iterAt w.heap.size s (pos + 1)) := fun ty => by
            rw [Lib.run_next_ascii_at wr w.heap.size s pos ty hit hps (by rw [← hxe, h45]; decide), ← hxe, h45]; rfl
          have hx2 := Lib.hid hx
          have h45H := Lib.hid h45
          clear hx hxe h45
          go_wp2
          go_roundw
          case rel =>
            have hx := hx2.out
            rw [h45H.out] at hx
            have hu : unAt l pos = 0 := by
              unfold unAt
              rw [if_neg (fun e => by rw [hx] at e; exact hn45 (Option.some.inj e).symm)]
            exact ⟨pos + 1, by omega, by rw [unTo, hu, Nat.add_zero], hit2 _, hbw2 _, hG.next (.inl hx)⟩
          case measure =>
            simp only [World.iterPos, hit2, hit]
            omega
        · by_cases hxl : x = lettersL.getD pos 45
          · have hnx : ∀ ty, (Instr.next (.pointer (some ⟨w.heap.size, 0, none⟩)) true ty).run Try.prog wr = .ok (.tuple #[.bool true, .int .i64 pos, .int .i32 c]) (wr.iterAt w.heap.size s (pos + 1)) := fun ty => by
              rw [Lib.run_next_ascii_at wr w.heap.size s pos ty hit hps (by rw [← hxe, hxl, ← hcH.out]; exact hlt), ← hxe, hxl, ← hcH.out]
            have hor := or_in hp (unTo_lt l pos)
            have hx2 := Lib.hid hx
            have h45H := Lib.hid h45
            have hxlH := Lib.hid hxl
            clear hx hxe h45 hxl
            have hne : ((c : Int) == 45) = false := by simp; omega
            go_wp2_with (go_at_call 17; refine (right_any pos hp _).mono ?_; rintro e w' ⟨rfl, rfl⟩)
            go_wp2
            go_roundw
            case rel =>
              have hx := hx2.out
              rw [hxlH.out] at hx
              have hu : unAt l pos = 2 ^ pos := by unfold unAt; rw [if_pos hx]
              exact ⟨pos + 1, by omega, by rw [unTo, hu]; simp, hit2 _, hbw2 _, hG.next (.inr hx)⟩
            case measure =>
              simp only [World.iterPos, hit2, hit]
              omega
          · obtain ⟨d, k, hd45, hdc, hnx⟩ : ∃ (d : Int) (k : Nat), d ≠ 45 ∧ d ≠ c ∧ ∀ ty, (Instr.next (.pointer (some ⟨w.heap.size, 0, none⟩)) true ty).run Try.prog wr = .ok (.tuple #[.bool true, .int .i64 pos, .int .i32 d]) (wr.iterAt w.heap.size s k) := by
              by_cases ha : x.toNat < 128
              · refine ⟨x.toNat, pos + 1, fun e => h45 (UInt8.toNat_inj.1 (by show x.toNat = 45; omega)), fun e => hxl (UInt8.toNat_inj.1 (by rw [← hcH.out]; omega)), fun ty => ?_⟩
                rw [Lib.run_next_ascii_at wr w.heap.size s pos ty hit hps (by rw [← hxe]; exact ha), ← hxe]
              · have hh := (decode_high s pos hps (by rw [← hxe]; omega)).1
                exact ⟨(Utf8.decode s pos).1, pos + (Utf8.decode s pos).2, by omega, by omega, fun ty => Lib.run_next_any_at wr w.heap.size s pos ty hit hps⟩
            obtain ⟨hB, hN⟩ := of_bad hp hx h45 hxl
            have hBH := Lib.hid hB
            have hNH := Lib.hid hN
            clear hx hxe h45 hxl hB hN
            have hne : (d == 45) = false := by simpa using hd45
            have hne2 : (d == (c : Int)) = false := by simpa using hdc
            go_wp2
            go_ret2
            exact ⟨by rw [hBH.out, hNH.out]; rfl, hbw2 _⟩
      · obtain rfl : pos = 8 := by omega
        have hnx : ∀ ty, (Instr.next (.pointer (some ⟨w.heap.size, 0, none⟩)) true ty).run Try.prog wr = _ := fun ty => Lib.run_next_end_at wr w.heap.size s 8 ty hit (by omega)
        obtain ⟨hB, hN⟩ := of_good hl8H.out hG
        have hBH := Lib.hid hB
        have hNH := Lib.hid hN
        clear hB hN
        go_wp2
        go_ret2
        exact ⟨by rw [hBH.out, hNH.out]; rfl, hbw⟩
  · obtain ⟨hB, hN⟩ := of_len (l := s.data.toList) (by simpa using h8)
    rw [hB, hN]
    clear hB hN
    have h8' : ((s.size : Int) == 8) = false := by simp; omega
    go_enter Try.func13, Try.ntmps13
    go_wp2
    go_ret2
    exact ⟨rfl, Below.refl _ _⟩
end Go.Proofs
end
section
namespace Go.Proofs
open Go.RowKit
set_option linter.unusedVariables false

/-! ### The document's Among -/
set_option maxHeartbeats 2000000 in
theorem among_any (a f : Nat) (ha : a < 256) (hf : f < 256) (w : World) :
    Calls Try.prog 8 #[.int .u8 a, .int .u8 f] w fun e w' => e = .returned (.bool (amongP a f)) ∧ w = w' := by
  go_enter Try.func8, Try.ntmps8
  go_wp2
  go_loop [5] (fun i => ∃ k : Nat, k ≤ 8 ∧ i = .int .i64 k ∧ ∀ j, j < k → a.testBit j = true → f.testBit j = true) (fun i => 8 - (intOf i).toNat)
  case atStart => exact ⟨0, by omega, rfl, fun j hj => absurd hj (by omega)⟩
  case round =>
    obtain ⟨k, hk, rfl, hall⟩ := hrel
    by_cases hlt : k < 8
    · have hk9 : k < 9 := by omega
      cases ha1 : a.testBit k
      · go_wp2_with (go_at_call 16; refine (rbit_any a k ha hk9 _).mono ?_; rintro e w' ⟨rfl, rfl⟩)
        go_round
        case rel => exact ⟨k + 1, by omega, by go_num, fun j hj h => by
          by_cases e : j = k
          · subst e; rw [ha1] at h; cases h
          · exact hall j (by omega) h⟩
        case measure => simp [intOf]; omega
      · cases hf1 : f.testBit k
        · have hA : amongP a f = false := by
            cases h : amongP a f
            · rfl
            · rw [(amongP_iff ha hf).1 h k hlt ha1] at hf1; cases hf1
          have hAH := Lib.hid hA
          clear hA
          go_wp2_with (go_at_call 16; refine (rbit_any _ k (by assumption) hk9 _).mono ?_; rintro e w' ⟨rfl, rfl⟩)
          go_ret
          exact ⟨by rw [hAH.out]; rfl, rfl⟩
        · go_wp2_with (go_at_call 16; refine (rbit_any _ k (by assumption) hk9 _).mono ?_; rintro e w' ⟨rfl, rfl⟩)
          go_round
          case rel => exact ⟨k + 1, by omega, by go_num, fun j hj h => by
            by_cases e : j = k
            · subst e; exact hf1
            · exact hall j (by omega) h⟩
          case measure => simp [intOf]; omega
    · obtain rfl : k = 8 := by omega
      have hA := Lib.hid ((amongP_iff ha hf).2 hall)
      clear hall
      go_wp2
      go_ret
      exact ⟨by rw [hA.out]; rfl, rfl⟩
end Go.Proofs
end
section
namespace Go.Proofs
open Go.RowKit
set_option linter.unusedVariables false
set_option linter.unusedSimpArgs false

theorem Try.byte_info : (Try.prog.info? 5).map (fun i => (i.zero, i.size, i.bytes)) = some (some (.int .u8 0), 1, 1) := by kernel_rfl
theorem own_ge {w : World} {base : Nat} {e : TypeId} {size n : Nat} {v : Value} {xs : List Value} (h : w.ownsRow base e size v n xs) : ∀ k, v.ownBlock = some k → base ≤ k := fun k hk => (h.lt k hk).1
theorem txt_succ (r n : Nat) (c : UInt8) (h : txtAt r n = c) : Lib.byteCells (txtTo r (n + 1)) = Lib.byteCells (txtTo r n) ++ [.int .u8 c.toNat] := by
  rw [txtTo_succ, Lib.byteCells_append, h]; rfl
/-- A row's bytes as a string. -/
theorem conv_row {w : World} {B : Nat} {v : Value} {l : List UInt8} (h : w.ownsRow B 5 1 v l.length (Lib.byteCells l)) (h0 : 0 < l.length) : (convert 45 9 v).run Try.prog w = .ok (.string ⟨l.toArray⟩) w := by
  rcases h.2 with ⟨_, e⟩ | ⟨g, cap, cur, hv, _⟩
  · omega
  · subst hv
    exact run_convert_bytes_back w 45 9 5 ⟨g, 0, none⟩ cap l Try.underlying45 Try.underlying5 Try.underlying9 (fun j hj => h.cells rfl j _ (by unfold Lib.byteCells; simp [List.getElem?_eq_getElem hj]))

/-- The document's Text. -/
theorem rtext_any (r : Nat) (hr : r < 256) (w : World) :
    Calls Try.prog 14 #[.int .u8 r] w fun e w' => e = .returned (.string ⟨(txt r).toArray⟩) ∧ Below w.heap.size w w' := by
  obtain ⟨i0, hi, hz0, hz1, hz2⟩ := info_parts Try.byte_info
  go_enter Try.func14, Try.ntmps14
  go_wp2
  go_loopw [4, 5] (fun v i wr => ∃ k : Nat, k ≤ 8 ∧ i = .int .i64 k ∧ wr.ownsRow w.heap.size 5 1 v k (Lib.byteCells (txtTo r k)) ∧ Below w.heap.size w wr)
    (fun _ i _ => 8 - (intOf i).toNat)
  case atStart => exact ⟨0, Nat.zero_le _, rfl, World.ownsRow_nil _ _ _ _, Below.refl _ _⟩
  case round =>
    obtain ⟨k, hk, rfl, hown, hnx⟩ := hrel
    by_cases hlt : k < 8
    · have hk9 : k < 9 := by omega
      cases hb : r.testBit k
      · have hY := Lib.hid (txt_succ r k 45 (by unfold txtAt; rw [hb]; rfl))
        go_wp2_with (first
          | (go_at_call 16; refine (rbit_any r k hr hk9 _).mono ?_; rintro e w' ⟨rfl, rfl⟩)
          | (at_builtin; refine wpList_append_own _ rfl _ _ 45 rfl w.heap.size 5 i0 (.int .u8 0) 1 1 Try.underlying45 hi hz0 hz1 hz2 rfl (by decide) _ _ _ rfl (hown.alloc _) ⟨wr.heap.size, 0, none⟩ 1 1 [.int .u8 45] rfl rfl ?c1 ?c2 ?c3 ?c4 ?c5 ?_))
        case c1 =>
          intro j u hj
          match j, hj with
          | 0, hj => simp at hj; subst hj; simp [Addr.add]
        case c2 => intro u hu; simp at hu; subst hu; rfl
        case c3 => unfold maxLen; omega
        case c4 => omega
        case c5 => have := hnx.size; simp; omega
        intro v' w1 hown' hgrow _
        go_wp2
        go_roundw
        case rel => exact ⟨k + 1, by omega, by go_num, by rw [hY.out]; simpa using hown', (hnx.alloc hnx.size _).grown hgrow (by have := hnx.size; simp; omega) (own_ge hown)⟩
        case measure => simp [intOf]; omega
      · obtain ⟨c, hc⟩ : ∃ c, c = (lettersL.getD k 45).toNat := ⟨_, rfl⟩
        have hix := index_letter k c hlt hc
        have hY : Hid (Lib.byteCells (txtTo r (k + 1)) = Lib.byteCells (txtTo r k) ++ [.int .u8 c]) := Lib.hid (by rw [hc]; exact txt_succ r k _ (by unfold txtAt; rw [hb]; rfl))
        clear hc
        go_wp2_with (first
          | (go_at_call 16; refine (rbit_any r k hr hk9 _).mono ?_; rintro e w' ⟨rfl, rfl⟩)
          | (at_builtin; refine wpList_append_own _ rfl _ _ 45 rfl w.heap.size 5 i0 (.int .u8 0) 1 1 Try.underlying45 hi hz0 hz1 hz2 rfl (by decide) _ _ _ rfl (hown.alloc _) ⟨wr.heap.size, 0, none⟩ 1 1 [.int .u8 c] rfl rfl ?c1 ?c2 ?c3 ?c4 ?c5 ?_))
        case c1 =>
          intro j u hj
          match j, hj with
          | 0, hj => simp at hj; subst hj; simp [Addr.add]
        case c2 => intro u hu; simp at hu; subst hu; rfl
        case c3 => unfold maxLen; omega
        case c4 => omega
        case c5 => have := hnx.size; simp; omega
        intro v' w1 hown' hgrow _
        go_wp2
        go_roundw
        case rel => exact ⟨k + 1, by omega, by go_num, by rw [hY.out]; simpa using hown', (hnx.alloc hnx.size _).grown hgrow (by have := hnx.size; simp; omega) (own_ge hown)⟩
        case measure => simp [intOf]; omega
    · obtain rfl : k = 8 := by omega
      have hl8 := txtTo_length r 8
      have hcv : (convert 45 9 _).run Try.prog wr = _ := conv_row (l := txtTo r 8) (by rw [hl8]; exact hown) (by omega)
      go_wp2
      go_ret
      exact ⟨rfl, hnx⟩
end Go.Proofs
end
section
namespace Go.Proofs
open Go.RowKit
set_option linter.unusedVariables false
set_option linter.unusedSimpArgs false

theorem str_list (s : ByteArray) : s = ⟨s.data.toList.toArray⟩ := by cases s; simp
theorem ofText_str (l : List UInt8) (w : World) :
    Calls Try.prog 13 #[.string ⟨l.toArray⟩] w fun e w' => e = .returned (.tuple #[.int .u8 (ofN l), .bool (ofB l)]) ∧ Below w.heap.size w w' := by
  have := ofText_any ⟨l.toArray⟩ w
  simpa using this
set_option maxRecDepth 100000 in
set_option maxHeartbeats 2000000 in
/-- The document's OfText. -/
theorem rofText_any (l : List UInt8) (w : World) :
    Calls Try.prog 15 #[.string ⟨l.toArray⟩] w fun e w' => e = .returned (.tuple #[.int .u8 (ofN l), .bool (ofB l)]) ∧ Below w.heap.size w w' := by
  go_enter Try.func15, Try.ntmps15
  go_wp2
  go_loopw [4] (fun i wr => ∃ k : Nat, k ≤ 256 ∧ i = .int .i64 k ∧ Below w.heap.size w wr ∧ ∀ r, r < k → txt r ≠ l) (fun i _ => 256 - (intOf i).toNat)
  case atStart => exact ⟨0, by omega, rfl, Below.refl _ _, fun r h => absurd h (by omega)⟩
  case round =>
    obtain ⟨k, hk, rfl, hb, hno⟩ := hrel
    by_cases hlt : k < 256
    · have hw : (k : Int) % 256 = k := by omega
      by_cases hS : txt k = l
      · obtain ⟨hB, hN⟩ := of_yes hlt hS
        have hBH := Lib.hid hB
        have hNH := Lib.hid hN
        have hS' : (txt k == l) = true := by simpa using hS
        clear hB hN hS hno
        go_wp2_with (go_at_call 14; refine (rtext_any k hlt _).mono ?_; rintro e w1 ⟨rfl, b1⟩)
        go_ret2
        exact ⟨by rw [hBH.out, hNH.out]; rfl, hb.trans (b1.mono hb.size)⟩
      · have hS' : (txt k == l) = false := by simpa using hS
        have hSH := Lib.hid hS
        clear hS
        go_wp2_with (go_at_call 14; refine (rtext_any k hlt _).mono ?_; rintro e w1 ⟨rfl, b1⟩)
        go_roundw
        case rel => exact ⟨k + 1, by omega, by go_num, hb.trans (b1.mono hb.size), fun r hr => by
          by_cases e : r = k
          · rw [e]; exact hSH.out
          · exact hno r (by omega)⟩
        case measure => simp [intOf]; omega
    · obtain rfl : k = 256 := by omega
      obtain ⟨hB, hN⟩ := of_no hno
      have hBH := Lib.hid hB
      have hNH := Lib.hid hN
      clear hB hN hno
      go_wp2
      go_ret2
      exact ⟨by rw [hBH.out, hNH.out]; rfl, hb⟩
end Go.Proofs
end
section
namespace Go.Proofs
open Go.RowKit
set_option linter.unusedVariables false
set_option linter.unusedSimpArgs false

/-! ### The chapter's rows -/
theorem narrow_r (x y : Int) (h : x = 65 ∧ y = 64 ∨ x = 64 ∧ y = 65) (w : World) : Calls Try.prog 7 #[.int .u8 x, .int .u8 y] w fun e w' => e = .returned (.tuple #[.int .u8 (if x = 65 then 64 else 0), .bool (decide (x = 65))]) ∧ w = w' := by
  rcases h with ⟨rfl, rfl⟩ | ⟨rfl, rfl⟩
  · exact narrow_any 65 64 (by omega) (by omega) w
  · exact narrow_any 64 65 (by omega) (by omega) w
theorem txt_r : txt 65 = [115, 45, 45, 45, 45, 45, 109, 45] := by decide +kernel
theorem text_r (w : World) : Calls Try.prog 12 #[.int .u8 65] w fun e w' => e = .returned (.string ⟨#[115, 45, 45, 45, 45, 45, 109, 45]⟩) ∧ Below w.heap.size w w' := by
  have := text_any 65 (by omega) w
  rw [txt_r] at this
  exact this
set_option maxRecDepth 100000 in
theorem known_any (w : World) : Calls Try.prog 9 #[] w fun e w' => e = .returned (.bool true) ∧ Below w.heap.size w w' := by
  go_enter Try.func9, Try.ntmps9
  go_wp2_with (first
    | (go_at_call 7; refine (narrow_r _ _ (by decide) _).mono ?_; rintro e w' ⟨rfl, rfl⟩)
    | (go_at_call 12; refine (text_r _).mono ?_; rintro e w1 ⟨rfl, b1⟩))
  go_ret
  exact ⟨rfl, b1⟩

/-! ### Meets -/
/-- Why a capability is not what is demanded. -/
def meetsP (ck nk : Int) (cr nr : Nat) : Int := if nk ≠ 0 ∧ nk ≠ ck then 12 else if amongP nr cr then 0 else 13
/-- A capability, and what is demanded, cell by cell. -/
abbrev capV (k i g : Int) (r : Nat) : Value := .agg #[.int .i64 k, .int .i64 i, .int .u64 g, .int .u8 r]
abbrev needV (a k : Int) (r : Nat) : Value := .agg #[.int .i64 a, .int .i64 k, .int .u8 r]
set_option maxRecDepth 100000 in
theorem meets_any (k i g a nk : Int) (r nr : Nat) (hr : r < 256) (hnr : nr < 256) (w : World) :
    Calls Try.prog 10 #[capV k i g r, needV a nk nr] w fun e w' => e = .returned (.int .i64 (meetsP k nk r nr)) ∧ Below w.heap.size w w' := by
  unfold meetsP
  by_cases h0 : nk = 0
  · subst h0
    rw [if_neg (by simp)]
    cases hA : amongP nr r
    · go_enter Try.func10, Try.ntmps10
      go_wp2_with (go_at_call 7; refine (narrow_any r nr hr hnr _).mono ?_; rintro e w' ⟨rfl, rfl⟩)
      go_ret
      exact ⟨rfl, ((Below.refl _ w).alloc (Nat.le_refl _) _).alloc (by simp) _⟩
    · go_enter Try.func10, Try.ntmps10
      go_wp2_with (go_at_call 7; refine (narrow_any r nr hr hnr _).mono ?_; rintro e w' ⟨rfl, rfl⟩)
      go_ret
      exact ⟨rfl, ((Below.refl _ w).alloc (Nat.le_refl _) _).alloc (by simp) _⟩
  · have e0 : (nk != 0) = true := by simpa using h0
    by_cases h1 : nk = k
    · subst h1
      rw [if_neg (by simp)]
      cases hA : amongP nr r
      · go_enter Try.func10, Try.ntmps10
        go_wp2_with (go_at_call 7; refine (narrow_any r nr hr hnr _).mono ?_; rintro e w' ⟨rfl, rfl⟩)
        go_ret
        exact ⟨rfl, ((Below.refl _ w).alloc (Nat.le_refl _) _).alloc (by simp) _⟩
      · go_enter Try.func10, Try.ntmps10
        go_wp2_with (go_at_call 7; refine (narrow_any r nr hr hnr _).mono ?_; rintro e w' ⟨rfl, rfl⟩)
        go_ret
        exact ⟨rfl, ((Below.refl _ w).alloc (Nat.le_refl _) _).alloc (by simp) _⟩
    · rw [if_pos ⟨h0, h1⟩]
      have e1 : (nk != k) = true := by simpa using h1
      have e2 : (k != nk) = true := by simp; exact fun e => h1 e.symm
      go_enter Try.func10, Try.ntmps10
      go_wp2
      go_ret
      exact ⟨rfl, ((Below.refl _ w).alloc (Nat.le_refl _) _).alloc (by simp) _⟩
set_option maxRecDepth 100000 in
/-- The document's Meets. -/
theorem rmeets_any (k i g a nk : Int) (r nr : Nat) (hr : r < 256) (hnr : nr < 256) (w : World) :
    Calls Try.prog 11 #[capV k i g r, needV a nk nr] w fun e w' => e = .returned (.int .i64 (meetsP k nk r nr)) ∧ Below w.heap.size w w' := by
  unfold meetsP
  by_cases h0 : nk = 0
  · subst h0
    rw [if_neg (by simp)]
    cases hA : amongP nr r
    · go_enter Try.func11, Try.ntmps11
      go_wp2_with (go_at_call 8; refine (among_any nr r hnr hr _).mono ?_; rintro e w' ⟨rfl, rfl⟩)
      go_ret
      exact ⟨rfl, ((Below.refl _ w).alloc (Nat.le_refl _) _).alloc (by simp) _⟩
    · go_enter Try.func11, Try.ntmps11
      go_wp2_with (go_at_call 8; refine (among_any nr r hnr hr _).mono ?_; rintro e w' ⟨rfl, rfl⟩)
      go_ret
      exact ⟨rfl, ((Below.refl _ w).alloc (Nat.le_refl _) _).alloc (by simp) _⟩
  · have e0 : (nk != 0) = true := by simpa using h0
    by_cases h1 : nk = k
    · subst h1
      rw [if_neg (by simp)]
      cases hA : amongP nr r
      · go_enter Try.func11, Try.ntmps11
        go_wp2_with (go_at_call 8; refine (among_any nr r hnr hr _).mono ?_; rintro e w' ⟨rfl, rfl⟩)
        go_ret
        exact ⟨rfl, ((Below.refl _ w).alloc (Nat.le_refl _) _).alloc (by simp) _⟩
      · go_enter Try.func11, Try.ntmps11
        go_wp2_with (go_at_call 8; refine (among_any nr r hnr hr _).mono ?_; rintro e w' ⟨rfl, rfl⟩)
        go_ret
        exact ⟨rfl, ((Below.refl _ w).alloc (Nat.le_refl _) _).alloc (by simp) _⟩
    · rw [if_pos ⟨h0, h1⟩]
      have e1 : (nk != k) = true := by simpa using h1
      have e2 : (k != nk) = true := by simp; exact fun e => h1 e.symm
      go_enter Try.func11, Try.ntmps11
      go_wp2
      go_ret
      exact ⟨rfl, ((Below.refl _ w).alloc (Nat.le_refl _) _).alloc (by simp) _⟩
end Go.Proofs
end
section
namespace Go.Proofs
open Go.RowKit
set_option linter.unusedVariables false
set_option linter.unusedSimpArgs false

theorem low8 (x : Int) : bits BinOp.and IntKind.i64 x 255 = x % 256 := by
  show IntKind.i64.wrap ((BitVec.ofInt 64 x &&& BitVec.ofInt 64 255).toNat : Int) = _
  rw [BitVec.toNat_and, BitVec.toNat_ofInt, show (BitVec.ofInt 64 255).toNat = 2 ^ 8 - 1 from rfl, Nat.and_two_pow_sub_one_eq_mod, IntKind.wrap_i64]
  have h := Int.emod_nonneg x (show (18446744073709551616 : Int) ≠ 0 by decide)
  have e : (x % ((2 ^ 64 : Nat) : Int)) = x % 18446744073709551616 := rfl
  rw [e]
  omega
theorem low8_nat (x : Int) : ∃ A : Nat, A < 256 ∧ bits BinOp.and IntKind.i64 x 255 = (A : Int) ∧ (A : Int) % 256 = A := by
  have h := Int.emod_nonneg x (show (256 : Int) ≠ 0 by decide)
  have h2 := Int.emod_lt_of_pos x (show (0 : Int) < 256 by decide)
  exact ⟨(x % 256).toNat, by omega, by rw [low8]; omega, by omega⟩

set_option maxRecDepth 100000 in
set_option maxHeartbeats 1000000 in
theorem narrow_law (x y : Int) (w : World) :
    Calls Try.prog 3 #[.int .i64 x, .int .i64 y] w fun e w' => e = .returned (.bool true) ∧ Below w.heap.size w w' := by
  obtain ⟨A, hA, eA, mA⟩ := low8_nat x
  obtain ⟨B, hB, eB, mB⟩ := low8_nat y
  cases hN : amongP B A
  · have hn : narrowP A B = 0 := by unfold narrowP; rw [hN]; rfl
    have e7 := narrow_any A B hA hB
    rw [hn, hN] at e7
    have e8 := among_any B A hB hA
    rw [hN] at e8
    clear hn hN
    go_enter Try.func3, Try.ntmps3
    go_wp2_with (first
      | (go_at_call 7; refine (e7 _).mono ?_; rintro e w' ⟨rfl, rfl⟩)
      | (go_at_call 8; refine (e8 _).mono ?_; rintro e w' ⟨rfl, rfl⟩)
      | (go_at_call 9; refine (known_any _).mono ?_; rintro e w1 ⟨rfl, b1⟩))
    go_ret
    exact ⟨rfl, b1⟩
  · have hn : narrowP A B = B := by unfold narrowP; rw [hN]; rfl
    have e7 := narrow_any A B hA hB
    rw [hn, hN] at e7
    have e8 := among_any B A hB hA
    rw [hN] at e8
    clear hn hN
    go_enter Try.func3, Try.ntmps3
    go_wp2_with (first
      | (go_at_call 7; refine (e7 _).mono ?_; rintro e w' ⟨rfl, rfl⟩)
      | (go_at_call 8; refine (e8 _).mono ?_; rintro e w' ⟨rfl, rfl⟩)
      | (go_at_call 9; refine (known_any _).mono ?_; rintro e w1 ⟨rfl, b1⟩))
    go_ret
    exact ⟨rfl, b1⟩
end Go.Proofs
end
section
namespace Go.Proofs
open Go.RowKit
set_option linter.unusedVariables false
set_option linter.unusedSimpArgs false

/-- What is narrowed meets no demand that what it came of did not meet. -/
theorem meets_less {k nk : Int} {r nr B : Nat} (hr : r < 256) (hnr : nr < 256) (hB : B < 256) (h : amongP B r = true) : (meetsP k nk B nr != 0) = true ∨ meetsP k nk r nr = 0 := by
  unfold meetsP
  by_cases c : nk ≠ 0 ∧ nk ≠ k
  · rw [if_pos c, if_pos c]; left; rfl
  · rw [if_neg c, if_neg c]
    cases h1 : amongP nr B
    · left; rfl
    · right; rw [amongP_trans hnr hB hr h1 h]; rfl
/-- The two boxes. -/
def At2 (W : World) (b : Nat) (k i g a nk : Int) (r nr : Nat) : Prop :=
  b + 1 < W.heap.size ∧ W.cell? ⟨b, 0, none⟩ = some (.int .i64 k) ∧ W.cell? ⟨b, 1, none⟩ = some (.int .i64 i) ∧ W.cell? ⟨b, 2, none⟩ = some (.int .u64 g) ∧ W.cell? ⟨b, 3, none⟩ = some (.int .u8 r) ∧
    W.cell? ⟨b + 1, 0, none⟩ = some (.int .i64 a) ∧ W.cell? ⟨b + 1, 1, none⟩ = some (.int .i64 nk) ∧ W.cell? ⟨b + 1, 2, none⟩ = some (.int .u8 nr)
theorem At2.next {W W' : World} {b : Nat} {k i g a nk : Int} {r nr : Nat} (h : At2 W b k i g a nk r nr) (hb : Below W.heap.size W W') : At2 W' b k i g a nk r nr := by
  obtain ⟨h0, h1, h2, h3, h4, h5, h6, h7⟩ := h
  exact ⟨Nat.lt_of_lt_of_le h0 hb.size, (hb.cell (by show b < _; omega)).trans h1, (hb.cell (by show b < _; omega)).trans h2, (hb.cell (by show b < _; omega)).trans h3, (hb.cell (by show b < _; omega)).trans h4, (hb.cell (by show b + 1 < _; omega)).trans h5, (hb.cell (by show b + 1 < _; omega)).trans h6, (hb.cell (by show b + 1 < _; omega)).trans h7⟩
theorem At2.made (w : World) (k i g a nk : Int) (r nr : Nat) : At2 ((w.alloc (.cells #[.int .i64 k, .int .i64 i, .int .u64 g, .int .u8 r] 33)).alloc (.cells #[.int .i64 a, .int .i64 nk, .int .u8 nr] 35)) w.heap.size k i g a nk r nr := by
  refine ⟨by simp, ?_, ?_, ?_, ?_, ?_, ?_, ?_⟩ <;> simp [go_sem]
set_option maxRecDepth 100000 in
set_option maxHeartbeats 1000000 in
theorem meets_law (k i g a nk y : Int) (r nr : Nat) (hr : r < 256) (hnr : nr < 256) (w : World) :
    Calls Try.prog 4 #[capV k i g r, needV a nk nr, .int .i64 y] w fun e w' => e = .returned (.bool true) ∧ Below w.heap.size w w' := by
  obtain ⟨B, hB, eB, mB⟩ := low8_nat y
  have e10 := fun (x : Nat) (hx : x < 256) w => meets_any k i g a nk x nr hx hnr w
  have e11 := fun w => rmeets_any k i g a nk r nr hr hnr w
  have hb0 : Below w.heap.size w ((w.alloc (.cells #[.int .i64 k, .int .i64 i, .int .u64 g, .int .u8 r] 33)).alloc (.cells #[.int .i64 a, .int .i64 nk, .int .u8 nr] 35)) := ((Below.refl _ w).alloc (Nat.le_refl _) _).alloc (by simp) _
  have hb0H := Lib.hid hb0
  clear hb0
  have e7 := narrow_any r B hr hB
  cases hN : amongP B r
  · rw [hN] at e7
    clear hN
    go_enter Try.func4, Try.ntmps4
    go_wp2_with (first
      | (go_at_call 10; refine (e10 _ (by assumption) _).mono ?_; rintro e w1 ⟨rfl, b1⟩; have T1 := (At2.made w k i g a nk r nr).next b1; obtain ⟨q0, q1, q2, q3, q4, q5, q6, q7⟩ := id T1)
      | (go_at_call 11; refine (e11 _).mono ?_; rintro e w2 ⟨rfl, b2⟩; have T2 := T1.next b2; obtain ⟨p0, p1, p2, p3, p4, p5, p6, p7⟩ := id T2)
      | (go_at_call 7; refine (e7 _).mono ?_; rintro e w3 ⟨rfl, rfl⟩)
      | (go_at_call 9; refine (known_any _).mono ?_; rintro e w4 ⟨rfl, b4⟩))
    go_ret
    exact ⟨rfl, ((hb0H.out.trans (b1.mono hb0H.out.size)).trans (b2.mono (by omega))).trans (b4.mono (by omega))⟩
  · have hn : narrowP r B = B := by unfold narrowP; rw [hN]; rfl
    rw [hn, hN] at e7
    have hL := meets_less (k := k) (nk := nk) hr hnr hB hN
    have hcases : (meetsP k nk B nr != 0) = true ∨ (meetsP k nk B nr = 0 ∧ meetsP k nk r nr = 0) := by
      cases h : (meetsP k nk B nr != 0)
      · right
        rw [h] at hL
        exact ⟨by simpa using h, hL.resolve_left (by simp)⟩
      · left; rfl
    clear hn hN hL
    rcases hcases with h1 | ⟨h1, h2⟩
    · go_enter Try.func4, Try.ntmps4
      go_wp2_with (first
        | (go_at_call 10; refine (e10 _ (by assumption) _).mono ?_; rintro e w1 ⟨rfl, b1⟩; have T1 := (At2.made w k i g a nk r nr).next b1; obtain ⟨q0, q1, q2, q3, q4, q5, q6, q7⟩ := id T1)
        | (go_at_call 10; refine (e10 _ (by assumption) _).mono ?_; rintro e w5 ⟨rfl, b5⟩)
        | (go_at_call 11; refine (e11 _).mono ?_; rintro e w2 ⟨rfl, b2⟩; have T2 := T1.next b2; obtain ⟨p0, p1, p2, p3, p4, p5, p6, p7⟩ := id T2)
        | (go_at_call 7; refine (e7 _).mono ?_; rintro e w3 ⟨rfl, rfl⟩)
        | (go_at_call 9; refine (known_any _).mono ?_; rintro e w4 ⟨rfl, b4⟩))
      have b5' : Below w.heap.size w2 w5 := ((Below.refl w.heap.size w2).alloc (by omega) _).trans (b5.mono (by simp; omega))
      have s5 := b5'.size
      go_ret
      exact ⟨rfl, (((hb0H.out.trans (b1.mono hb0H.out.size)).trans (b2.mono (by omega))).trans b5').trans (b4.mono (by omega))⟩
    · go_enter Try.func4, Try.ntmps4
      go_wp2_with (first
        | (go_at_call 10; refine (e10 _ (by assumption) _).mono ?_; rintro e w1 ⟨rfl, b1⟩; have T1 := (At2.made w k i g a nk r nr).next b1; obtain ⟨q0, q1, q2, q3, q4, q5, q6, q7⟩ := id T1)
        | (go_at_call 10; refine (e10 _ (by assumption) _).mono ?_; rintro e w5 ⟨rfl, b5⟩)
        | (go_at_call 11; refine (e11 _).mono ?_; rintro e w2 ⟨rfl, b2⟩; have T2 := T1.next b2; obtain ⟨p0, p1, p2, p3, p4, p5, p6, p7⟩ := id T2)
        | (go_at_call 7; refine (e7 _).mono ?_; rintro e w3 ⟨rfl, rfl⟩)
        | (go_at_call 9; refine (known_any _).mono ?_; rintro e w4 ⟨rfl, b4⟩))
      have b5' : Below w.heap.size w2 w5 := ((Below.refl w.heap.size w2).alloc (by omega) _).trans (b5.mono (by simp; omega))
      have s5 := b5'.size
      go_ret
      exact ⟨rfl, (((hb0H.out.trans (b1.mono hb0H.out.size)).trans (b2.mono (by omega))).trans b5').trans (b4.mono (by omega))⟩
end Go.Proofs
end
section
namespace Go.Proofs
open Go.RowKit
set_option linter.unusedVariables false
set_option linter.unusedSimpArgs false

set_option maxRecDepth 100000 in
set_option maxHeartbeats 1000000 in
theorem reads_law (l : List UInt8) (w : World) :
    Calls Try.prog 6 #[.string ⟨l.toArray⟩] w fun e w' => e = .returned (.bool true) ∧ Below w.heap.size w w' := by
  by_cases hl : 100 < l.length
  · go_enter Try.func6, Try.ntmps6
    go_wp2_with (go_at_call 9; refine (known_any _).mono ?_; rintro e w1 ⟨rfl, b1⟩)
    go_ret
    exact ⟨rfl, b1⟩
  · have e13 := ofText_str l
    have e15 := rofText_any l
    obtain ⟨N, hN⟩ : ∃ N, N = ofN l := ⟨_, rfl⟩
    obtain ⟨B, hB⟩ : ∃ B, B = ofB l := ⟨_, rfl⟩
    rw [← hN, ← hB] at e13 e15
    clear hN hB
    go_enter Try.func6, Try.ntmps6
    go_wp2_with (first
      | (go_at_call 13; refine (e13 _).mono ?_; rintro e w1 ⟨rfl, b1⟩)
      | (go_at_call 15; refine (e15 _).mono ?_; rintro e w2 ⟨rfl, b2⟩)
      | (go_at_call 9; refine (known_any _).mono ?_; rintro e w3 ⟨rfl, b3⟩))
    go_ret
    exact ⟨rfl, (b1.trans (b2.mono b1.size)).trans (b3.mono (Nat.le_trans b1.size b2.size))⟩
set_option maxRecDepth 100000 in
set_option maxHeartbeats 1000000 in
theorem texts_law (w : World) :
    Calls Try.prog 5 #[] w fun e w' => e = .returned (.bool true) ∧ Below w.heap.size w w' := by
  go_enter Try.func5, Try.ntmps5
  go_wp2
  go_loopw [1] (fun i wr => ∃ k : Nat, k ≤ 256 ∧ i = .int .i64 k ∧ Below w.heap.size w wr) (fun i _ => 256 - (intOf i).toNat)
  case atStart => exact ⟨0, by omega, rfl, Below.refl _ _⟩
  case round =>
    obtain ⟨k, hk, rfl, hb⟩ := hrel
    by_cases hlt : k < 256
    · have hw : (k : Int) % 256 = k := by omega
      have e12 := text_any k hlt
      have e14 := rtext_any k hlt
      have e13 := ofText_str (txt k)
      obtain ⟨hB, hN⟩ := of_yes hlt rfl
      rw [hB, hN] at e13
      obtain ⟨T, hT⟩ : ∃ T, T = txt k := ⟨_, rfl⟩
      rw [← hT] at e12 e13 e14
      clear hB hN hT
      go_wp2_with (first
        | (go_at_call 12; refine (e12 _).mono ?_; rintro e w1 ⟨rfl, b1⟩)
        | (go_at_call 13; refine (e13 _).mono ?_; rintro e w2 ⟨rfl, b2⟩)
        | (go_at_call 14; refine (e14 _).mono ?_; rintro e w3 ⟨rfl, b3⟩))
      go_roundw
      case rel => exact ⟨k + 1, by omega, by go_num, ((hb.trans (b1.mono hb.size)).trans (b2.mono (Nat.le_trans hb.size b1.size))).trans (b3.mono (Nat.le_trans hb.size (Nat.le_trans b1.size b2.size)))⟩
      case measure => simp [intOf]; omega
    · obtain rfl : k = 256 := by omega
      go_wp2_with (go_at_call 9; refine (known_any _).mono ?_; rintro e w1 ⟨rfl, b1⟩)
      go_ret
      exact ⟨rfl, hb.trans (b1.mono hb.size)⟩
theorem reads_str (s : ByteArray) (w : World) :
    Calls Try.prog 6 #[.string s] w fun e w' => e = .returned (.bool true) ∧ Below w.heap.size w w' := by
  rw [str_list s]
  exact reads_law _ w
end Go.Proofs
end
