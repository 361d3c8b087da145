import Derived.Test.YteghakaflpgjgaaDoorM5
import Derived.Shelf.Strings.BuilderK
import Derived.WalkKit
import Derived.BigCall
import Derived.Test.YteghakaflpgjgaaDoorM4
section
namespace Go.Proofs
open Go.RowKit Go.Shelf
set_option linter.unusedVariables false

/-! ### strings.Builder's copyCheck and WriteString: the shelf's own can't be laid here, since the arm that panics is refused in this translation -/
theorem builderSize : (Tryd.prog.info? 54).map (·.size) = some 2 := by kernel_rfl
theorem builderLies : liesAt Tryd.prog Tryd.prog.depth 54 (2 / Tryd.prog.cellsOf 54) 0 54 1 = true := by kernel_rfl
set_option maxHeartbeats 1000000 in
set_option maxRecDepth 100000 in
theorem copyCheck_used (b : Nat) (w : World) (h0 : w.cell? ⟨b, 0, none⟩ = some (.pointer (some ⟨b, 0, none⟩))) :
    Calls Tryd.prog 38 #[.pointer (some ⟨b, 0, none⟩)] w fun e w' => e = .returned (.tuple #[]) ∧ w' = w := by
  obtain ⟨j, hj, _⟩ := Option.map_eq_some_iff.1 builderSize
  go_enter Tryd.func38, Tryd.ntmps38
  go_wp2
  rw [Lib.run_neq_ptr_same w _ Tryd.underlying52 hj]
  go_wp2
  go_end0
  exact ⟨rfl, rfl⟩

set_option maxHeartbeats 1000000 in
set_option maxRecDepth 100000 in
theorem copyCheck_fresh (b : Nat) (w : World) (h0 : w.cell? ⟨b, 0, none⟩ = some (.pointer none)) (hsh : w.shape? b = some (54, 2)) (hfz : w.frozen? ⟨b, 0, none⟩ = false) :
    Calls Tryd.prog 38 #[.pointer (some ⟨b, 0, none⟩)] w fun e w' => e = .returned (.tuple #[]) ∧ w' = w.setCell ⟨b, 0, none⟩ (.pointer (some ⟨b, 0, none⟩)) := by
  obtain ⟨j, hj, hjs⟩ := Option.map_eq_some_iff.1 builderSize
  go_enter Tryd.func38, Tryd.ntmps38
  go_wp2
  rw [Lib.run_to_unsafe w ⟨b, 0, none⟩ Tryd.underlying52 Tryd.underlying91 hj (by rw [hjs]; decide) hsh (Nat.zero_lt_succ 1)]
  simp only [Result.andThen]
  rw [Oper.upon_value]
  go_wp2
  rw [run_callFunc_extern Tryd.func52 (by kernel_rfl) (by kernel_rfl) (by kernel_rfl) (e := Extern.AbiNoEscape.same) (by kernel_rfl)]
  rw [Lib.run_noEscape]
  simp only [Result.andThen]
  rw [Oper.upon_value]
  go_wp2
  rw [Lib.run_from_unsafe w ⟨b, 0, none⟩ Tryd.underlying91 Tryd.underlying52 hj hsh builderLies]
  simp only [Result.andThen]
  rw [Oper.upon_value]
  go_wp2
  go_end0
  exact ⟨rfl, rfl⟩

theorem copyCheck_k (B b : Nat) (bs : List Value) (w : World) (h : Lib.IsBuilderF 54 5 B b bs w) :
    Calls Tryd.prog 38 #[.pointer (some ⟨b, 0, none⟩)] w fun e w' => e = .returned (.tuple #[]) ∧ (Lib.BuilderAtF 54 5 B b (.pointer (some ⟨b, 0, none⟩)) bs w' ∧ Below B w w' ∧ Lib.OthersKept 5 (some b) w w') := by
  rcases h with h | h
  · refine (copyCheck_fresh b w h.cell0 h.shape h.frozen0).mono ?_
    rintro e w' ⟨rfl, rfl⟩
    exact ⟨rfl, h.used _, (Below.refl B w).setCell (p := ⟨b, 0, none⟩) h.1 _, (Lib.OthersKept.refl _ _ w).setCell ⟨b, 0, none⟩ rfl _⟩
  · refine (copyCheck_used b w h.cell0).mono ?_
    rintro e w' ⟨rfl, rfl⟩
    exact ⟨rfl, h, Below.refl B _, Lib.OthersKept.refl _ _ _⟩

theorem byte_info : (Tryd.prog.info? 5).map (fun i => (i.zero, i.size, i.bytes)) = some (some (.int .u8 0), 1, 1) := by kernel_rfl
set_option maxHeartbeats 4000000 in
set_option maxRecDepth 100000 in
/-- WriteString. -/
theorem writeString_k (B b : Nat) (bs : List Value) (s : ByteArray) (w : World) (h : Lib.IsBuilderF 54 5 B b bs w) (hlen : bs.length + s.size ≤ 140737488355328) (hBw : B ≤ w.heap.size) :
    Calls Tryd.prog 27 #[.pointer (some ⟨b, 0, none⟩), .string s] w fun e w' => e = .returned (.tuple #[.int .i64 s.size, .nilIface]) ∧ (Lib.BuilderAtF 54 5 B b (.pointer (some ⟨b, 0, none⟩)) (bs ++ Lib.strCells s) w' ∧ Below B w w' ∧ Lib.OthersKept 5 (some b) w w') := by
  obtain ⟨i0, hi, hz0, hz1, hz2⟩ := info_parts byte_info
  go_enter Tryd.func27, Tryd.ntmps27
  go_wp2_with (go_at_call 38; refine (copyCheck_k B b bs _ h).mono ?_)
  rintro e w1 ⟨rfl, h1, hb1, hk1⟩
  obtain ⟨hB, v, hbk, hown, hne⟩ := h1
  have c0 : w1.cell? ⟨b, 0, none⟩ = some (.pointer (some ⟨b, 0, none⟩)) := by rw [Lib.cell_of_heap hbk]; rfl
  have c1 : w1.cell? ⟨b, 1, none⟩ = some v := by rw [Lib.cell_of_heap hbk]; rfl
  go_wp2_with (at_builtin; refine Lib.wpList_append_own_stringF _ rfl _ _ 22 9 rfl B 5 i0 Tryd.underlying22 Tryd.underlying9 hi hz0 hz1 hz2 _ _ _ rfl hown s rfl ?c3 ?c4 ?c5 ?_)
  case c3 => unfold maxLen; omega
  case c4 => omega
  case c5 => have := hb1.size; omega
  intro v' w2 hown' hgrow _
  have hlt : b < w1.heap.size := by
    rcases Nat.lt_or_ge b w1.heap.size with h' | h'
    · exact h'
    · simp [Array.getElem?_eq_none h'] at hbk
  have hb2 : w2.heap[b]? = some (.cells #[.pointer (some ⟨b, 0, none⟩), v] 54 (0, 0)) := by
    rw [hgrow.block b hlt (fun e => hne e.symm)]
    exact hbk
  have d0 : w2.cell? ⟨b, 0, none⟩ = some (.pointer (some ⟨b, 0, none⟩)) := by rw [Lib.cell_of_heap hb2]; rfl
  have d1 : w2.cell? ⟨b, 1, none⟩ = some v := by rw [Lib.cell_of_heap hb2]; rfl
  have f1 : w2.frozen? ⟨b, 1, none⟩ = false := Lib.frozen_of_heap hb2 1
  obtain ⟨ao, n', cap, rfl⟩ : ∃ ao n' cap, v' = .slice ao n' cap := by
    rcases hown'.2 with ⟨hv, _⟩ | ⟨g, cap, cur, fz, hv, _⟩
    · exact ⟨_, _, _, hv⟩
    · exact ⟨_, _, _, hv⟩
  go_wp2
  go_ret2
  refine ⟨rfl, ?_, ?_, (hk1.grown hgrow (Lib.ownsRowF_kind hown)).setCell ⟨b, 1, none⟩ rfl _⟩
  · exact Lib.BuilderAtF.put (T := 54) (e := 5) hB hb2 (bs' := bs ++ Lib.strCells s) (by simpa [Lib.strCells_length] using hown') (by decide)
  · exact (hb1.grown hgrow (by have := hb1.size; omega) (fun k hk => (hown.lt k hk).1)).setCell (p := ⟨b, 1, none⟩) hB _
end Go.Proofs
end
section
namespace Go.Proofs
open Go.RowKit
set_option linter.unusedVariables false
set_option linter.unusedSimpArgs false

theorem str_get (l : List UInt8) (k : Nat) (h : k < (⟨l.toArray⟩ : ByteArray).size) : (⟨l.toArray⟩ : ByteArray)[k]'h = l[k]'(by simpa [ByteArray.size] using h) := by
  rfl
theorem str_size (l : List UInt8) : (⟨l.toArray⟩ : ByteArray).size = l.length := by simp [ByteArray.size]
/-- The next letter of a text. -/
theorem next_at {w : World} {k : Nat} {l : List UInt8} {pos : Nat} (hit : w.heap[k]? = some (.stringIter ⟨l.toArray⟩ pos)) {x : UInt8} (hx : l[pos]? = some x) (ha : x.toNat < 128) (ty : TypeId) :
    (Instr.next (.pointer (some ⟨k, 0, none⟩)) true ty).run Tryd.prog w = .ok (.tuple #[.bool true, .int .i64 pos, .int .i32 x.toNat]) (w.iterAt k ⟨l.toArray⟩ (pos + 1)) := by
  obtain ⟨hp, rfl⟩ := List.getElem?_eq_some_iff.1 hx
  have hp' : pos < (⟨l.toArray⟩ : ByteArray).size := by rw [str_size]; exact hp
  have e := str_get l pos hp'
  rw [Lib.run_next_ascii_at w k ⟨l.toArray⟩ pos ty hit hp' (by rw [e]; exact ha), e]
/-- The letters of an op's form. -/
theorem form_letters (o : UInt8) : ∀ l ∈ (formOr o).2, isLetter l := by
  unfold formOr
  rcases kinds o with (rfl | rfl | rfl | rfl | rfl | rfl | rfl | rfl | h) | h
  all_goals first
    | (rw [form_call h]; intro l hl; simp at hl; subst hl; simp [isLetter])
    | (rw [form_none h]; intro l hl; simp at hl)
    | (intro l hl; simp [formP, formAt, formsL] at hl; rcases hl with rfl | rfl | rfl <;> simp [isLetter])
    | (intro l hl; simp [formP, formAt, formsL] at hl; rcases hl with rfl | rfl <;> simp [isLetter])
    | (intro l hl; simp [formP, formAt, formsL] at hl; rcases hl with rfl <;> simp [isLetter])
    | (intro l hl; simp [formP, formAt, formsL] at hl)
theorem letter_lt {l : UInt8} (h : isLetter l) : l.toNat < 128 := by
  rcases h with rfl | rfl | rfl | rfl | rfl | rfl <;> decide
theorem isOneP_eq (x : Ins) : isOneP x = ((formP x.o).isSome && (formOr x.o).2.all fun l => !noReg x l) := by
  unfold isOneP formOr
  cases formP x.o <;> rfl
theorem Below.same {B : Nat} {a b : World} (h : Below B a b) {k : Nat} (hk : k < B) : b.heap[k]? = a.heap[k]? := h.block k hk
set_option maxHeartbeats 2000000 in
set_option maxRecDepth 100000 in
theorem isOne_any (x : Ins) (m : Nat) (w : World) (h : FormsAt w m) : Calls Tryd.prog 23 #[.map (some m), x.val] w fun e w' => e = .returned (.bool (isOneP x)) ∧ Below w.heap.size w w' := by
  have hF := formOf_any x.o m _ (h.below ((Below.refl w.heap.size w).alloc (Nat.le_refl _) (.cells #[.int .u8 x.o.toNat, .int .u8 x.a.toNat, .int .u8 x.b.toNat, .int .u8 x.c.toNat] 26)))
  have hR := noReg_any x
  have hlet := form_letters x.o
  rw [isOneP_eq]
  obtain ⟨f, hf⟩ : ∃ f, f = formOr x.o := ⟨_, rfl⟩
  obtain ⟨B, hB⟩ : ∃ B, B = (formP x.o).isSome := ⟨_, rfl⟩
  rw [← hf] at hF hlet ⊢
  rw [← hB] at hF ⊢
  obtain ⟨wd, nm⟩ := f
  clear hf hB h
  obtain ⟨nr, hnr⟩ : ∃ nr : UInt8 → Bool, nr = fun l => noReg x l := ⟨_, rfl⟩
  replace hR : ∀ l, isLetter l → ∀ w, Calls Tryd.prog 36 #[x.val, .int .i32 l.toNat] w fun e w' => e = .returned (.bool (nr l)) ∧ Below w.heap.size w w' := fun l hl w => by rw [hnr]; exact hR l hl w
  have hgoal : (nm.all fun l => !noReg x l) = nm.all fun l => !nr l := by rw [hnr]
  simp only at hlet ⊢
  rw [hgoal]
  clear hgoal hnr
  obtain ⟨o, a, b, c⟩ := x
  rw [Ins.val_eq] at hR ⊢
  unfold formV at hF
  simp only at hF
  obtain ⟨res, hres⟩ : ∃ res, res = (B && nm.all fun l => !nr l) := ⟨_, rfl⟩
  rw [← hres]
  have hresH := Lib.hid hres
  clear hres
  have hFH := Lib.hid hF
  have hRH := Lib.hid hR
  have hletH := Lib.hid hlet
  clear hF hR hlet
  go_enter Tryd.func23, Tryd.ntmps23
  go_wp2_with (go_at_call 35; refine hFH.out.mono ?_; rintro e w1 ⟨rfl, hb1⟩)
  have hsz1 : w.heap.size + 1 ≤ w1.heap.size := by have := hb1.size; simpa using this
  have hbw1 : Below w.heap.size w w1 := ((Below.refl _ _).alloc (Nat.le_refl _) _).trans (hb1.mono (by simp))
  have hbox : w1.heap[w.heap.size]? = some (.cells #[.int .u8 o.toNat, .int .u8 a.toNat, .int .u8 b.toNat, .int .u8 c.toNat] 26 (0, 0)) := by
    rw [hb1.block w.heap.size (by simp)]; exact heap_alloc_new w _
  clear hb1
  go_loopw [] (fun wr => ∃ (pos : Nat), Hid (pos ≤ nm.length) ∧ wr.heap[w1.heap.size + 1]? = some (.stringIter ⟨nm.toArray⟩ pos) ∧ wr.heap[w.heap.size]? = some (.cells #[.int .u8 o.toNat, .int .u8 a.toNat, .int .u8 b.toNat, .int .u8 c.toNat] 26 (0, 0)) ∧ Below w.heap.size w wr ∧ Hid (∀ l ∈ nm.take pos, nr l = false)) (fun wr => nm.length - wr.iterPos (w1.heap.size + 1))
  case atStart =>
    refine ⟨0, Lib.hid (by omega), ?_, ?_, (hbw1.alloc (by omega) _).alloc (by simp; omega) _, Lib.hid (fun l hl => by simp at hl)⟩
    · have := World.iter_heap (w1.alloc (.cells #[.string ⟨wd.toArray⟩, .string ⟨nm.toArray⟩] 72)) ⟨nm.toArray⟩ 0
      simpa using this
    · exact (Lib.alloc_old _ _ _ (by simp; omega)).trans ((Lib.alloc_old _ _ _ (by omega)).trans hbox)
  case round =>
    obtain ⟨pos, hposH, hit, hbox2, hbw, hdone⟩ := hrel
    have hszr : w1.heap.size + 1 < wr.heap.size := (Array.getElem?_eq_some_iff.1 hit).1
    by_cases hp : pos < nm.length
    · obtain ⟨l, hl⟩ : ∃ l, nm[pos]? = some l := ⟨_, List.getElem?_eq_getElem hp⟩
      have hll := hletH.out l (List.mem_of_getElem? hl)
      have hnx := next_at (w := wr) hit hl (letter_lt hll)
      have hit2 := Lib.iterAt_heap wr (w1.heap.size + 1) ⟨nm.toArray⟩ pos (pos + 1) hit
      have hbw2 := Lib.below_iterAt hbw (k := w1.heap.size + 1) (by omega) ⟨nm.toArray⟩ (pos + 1)
      have hbox3 : (wr.iterAt (w1.heap.size + 1) ⟨nm.toArray⟩ (pos + 1)).heap[w.heap.size]? = some (.cells #[.int .u8 o.toNat, .int .u8 a.toNat, .int .u8 b.toNat, .int .u8 c.toNat] 26 (0, 0)) := by
        rw [Lib.iterAt_other _ _ _ _ _ (by omega)]; exact hbox2
      have hc3 : ∀ i, (wr.iterAt (w1.heap.size + 1) ⟨nm.toArray⟩ (pos + 1)).cell? ⟨w.heap.size, i, none⟩ = #[Value.int .u8 o.toNat, .int .u8 a.toNat, .int .u8 b.toNat, .int .u8 c.toNat][i]? := fun i => cell_of_row _ _ i _ 26 (0, 0) hbox3
      have hR2 := Lib.hid (hRH.out l hll)
      have k0 := hc3 0
      have k1 := hc3 1
      have k2 := hc3 2
      have k3 := hc3 3
      simp only [List.getElem?_toArray, List.getElem?_cons_zero, List.getElem?_cons_succ] at k0 k1 k2 k3
      have htake : nm.take (pos + 1) = nm.take pos ++ [l] := by rw [List.take_add_one, hl]; rfl
      have hpH := Lib.hid hp
      have hlH := Lib.hid hl
      clear hc3 hbox3 hp hl
      cases hnr : nr l
      · rw [hnr] at hR2
        have hnrH := Lib.hid hnr
        clear hnr
        go_wp2_with (go_at_call 36; refine (hR2.out _).mono ?_; rintro e w2 ⟨rfl, hb2⟩)
        go_roundw
        case rel =>
          refine ⟨pos + 1, Lib.hid hpH.out, ?_, ?_, hbw2.trans (hb2.mono hbw2.size), Lib.hid (fun y hy => ?_)⟩
          · rw [hb2.block _ (by rw [Lib.iterAt_size]; omega)]; exact hit2
          · rw [hb2.block _ (by rw [Lib.iterAt_size]; omega), Lib.iterAt_other _ _ _ _ _ (by omega)]; exact hbox2
          · rw [htake, List.mem_append] at hy
            rcases hy with hy | hy
            · exact hdone.out y hy
            · rw [List.mem_singleton] at hy; rw [hy]; exact hnrH.out
        case measure =>
          have e : w2.heap[w1.heap.size + 1]? = some (.stringIter ⟨nm.toArray⟩ (pos + 1)) := by rw [hb2.block _ (by rw [Lib.iterAt_size]; omega)]; exact hit2
          have := hpH.out
          simp only [World.iterPos, e, hit]
          omega
      · rw [hnr] at hR2
        have hall : (B && nm.all fun l => !nr l) = false := by
          have : (nm.all fun l => !nr l) = false := by
            rw [List.all_eq_false]
            exact ⟨l, List.mem_of_getElem? hlH.out, by simp [hnr]⟩
          rw [this]; simp
        have hallH := Lib.hid hall
        clear hnr hall
        go_wp2_with (go_at_call 36; refine (hR2.out _).mono ?_; rintro e w2 ⟨rfl, hb2⟩)
        go_ret
        exact ⟨by rw [hresH.out, hallH.out]; rfl, hbw2.trans (hb2.mono hbw2.size)⟩
    · have hpe : pos = nm.length := by have := hposH.out; omega
      subst hpe
      have hnx : ∀ ty, (Instr.next (.pointer (some ⟨w1.heap.size + 1, 0, none⟩)) true ty).run Tryd.prog wr = _ := fun ty => Lib.run_next_end_at wr (w1.heap.size + 1) ⟨nm.toArray⟩ nm.length ty hit (by rw [str_size]; omega)
      have hall : (B && nm.all fun l => !nr l) = B := by
        have : (nm.all fun l => !nr l) = true := by
          rw [List.all_eq_true]
          intro l hl
          rw [hdone.out l (by rw [List.take_length]; exact hl)]; rfl
        rw [this]; simp
      have hallH := Lib.hid hall
      clear hall hp
      go_wp2
      go_ret
      exact ⟨by rw [hresH.out, hallH.out]; rfl, hbw⟩
end Go.Proofs
end
