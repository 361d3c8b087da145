import Derived.Test.YteghakaflpgjgaaDoorM6
import Derived.Deep.RegionLaw
import Derived.Lib.SlBytesConst
import Derived.Laws.BytesArg
import Derived.Lib.AppendIntMem
section
namespace Go.Proofs
open Go.RowKit
set_option linter.unusedVariables false
set_option linter.unusedSimpArgs false

/-! ### What the library's variables hold -/
theorem var_below {P : Program} {w w' : World} {name : String} {cs : Array Value} (h : w.var? P name = some cs) (hb : Below w.heap.size w w') : w'.var? P name = some cs := by
  unfold World.var? at h ⊢
  cases hg : P.globalNamed name with
  | none => rw [hg] at h; cases h
  | some g =>
    rw [hg] at h
    simp only [Option.bind_some] at h ⊢
    cases hh : w.heap[g]? with
    | none => rw [hh] at h; cases h
    | some o =>
      have hlt : g < w.heap.size := (Array.getElem?_eq_some_iff.1 hh).1
      rw [hb.block g hlt]; exact h
def Ta (w : World) : Prop := Lib.TabIs Tryd.prog w "internal/strconv.uint64pow10" .u64 Lib.pow10Tab
theorem Ta.below {w w' : World} (h : Ta w) (hb : Below w.heap.size w w') : Ta w' := var_below h hb
theorem itoa_any (n : Int) (h0 : -9223372036854775808 ≤ n) (h1 : n ≤ 9223372036854775807) (w : World) (h : Ta w) : Calls Tryd.prog 40 #[.int .i64 n] w fun e w' => e = .returned (.string ⟨(Lib.itoa n).toArray⟩) ∧ Below w.heap.size w w' := by
  refine (Tryd.strconv_Itoa n h0 h1 w h).mono ?_
  rintro e w' ⟨rfl, k, os, rfl⟩
  exact ⟨rfl, Lib.below_grow _ w (Nat.le_refl _) k os⟩

theorem below_drew {B : Nat} {a b : World} (h : Below B a b) : Below B a b.drew := ⟨h.os, h.tape, h.output, h.size, h.block⟩
theorem below_drewN {B : Nat} {a b : World} (h : Below B a b) (n : Nat) : Below B a (b.drewN n) := ⟨h.os, h.tape, h.output, h.size, h.block⟩
/-! ### Four bytes -/
theorem four_any (V : Value) (o a b c : UInt8) (r : List UInt8) (w : World) (h : By w V (o :: a :: b :: c :: r)) : Calls Tryd.prog 22 #[V] w fun e w' => e = .returned (⟨o, a, b, c⟩ : Ins).val ∧ Below w.heap.size w w' := by
  obtain ⟨g, off, cap, rfl, hc1, hc2, hlt, hcell⟩ := h.open_ (by simp)
  have hW := fun (W : World) (hb : Below w.heap.size w W) (k : Nat) (x : UInt8) (hk : (o :: a :: b :: c :: r)[k]? = some x) => (hb.cell (p := ⟨g, off + k, none⟩) hlt).trans (hcell k x hk)
  have hb0 := (Below.refl w.heap.size w).alloc (Nat.le_refl _) (.cells #[.int .u8 0, .int .u8 0, .int .u8 0, .int .u8 0] 26)
  have q0 := hW _ hb0 0 o rfl
  rw [Nat.add_zero] at q0
  have q1 := hW _ hb0 1 a rfl
  have q2 := hW _ hb0 2 b rfl
  have q3 := hW _ hb0 3 c rfl
  rw [Ins.val_eq]
  simp only [List.length_cons] at hc1 ⊢
  generalize r.length = n at *
  clear hW hcell h
  go_enter Tryd.func22, Tryd.ntmps22
  go_wp2
  go_region
  all_goals go_wp2
  all_goals exact bodyPost_ret (v := .agg #[.int .u8 o.toNat, .int .u8 a.toNat, .int .u8 b.toNat, .int .u8 c.toNat]) (by simp [results, Tryd.results22, go_sem]) rfl ⟨rfl, below_drew ((Below.refl _ _).alloc (Nat.le_refl _) _)⟩

/-! ### Bytes as they are -/
abbrev hexB : ByteArray := { data := #[48, 49, 50, 51, 52, 53, 54, 55, 56, 57, 97, 98, 99, 100, 101, 102] }
theorem index_hex (n : Nat) (h : n < 16) (w : World) : (Instr.index 9 (.string hexB) (.int .u8 n)).run Tryd.prog w = .ok (.int .u8 (hexDigit n).toNat) w := by
  have hb : (0 : Int) ≤ (n : Int) ∧ (n : Int) < hexB.size := ⟨by omega, by show (n : Int) < 16; omega⟩
  rw [run_index_string w 9 hexB .u8 n Tryd.underlying9]
  rw [dif_pos hb]
  have : ∀ p : Fin 16, hexB[p.val]'(show p.val < 16 from p.isLt) = hexDigit p.val := by decide
  have e := this ⟨n, h⟩
  simp only at e
  show Result.ok (Value.int .u8 (hexB[n]'(show n < 16 from h)).toNat) w = _
  rw [e]
theorem and15 (x : UInt8) : bits BinOp.and IntKind.u8 (x.toNat : Int) 15 = ((x.toNat % 16 : Nat) : Int) := by
  have hx := x.toNat_lt
  have := u8_and_nat x.toNat 15 hx (by omega)
  rw [show ((15 : Nat) : Int) = 15 from rfl] at this
  rw [this, show (15 : Nat) = 2 ^ 4 - 1 from rfl, Nat.and_two_pow_sub_one_eq_mod]
theorem hexP_snoc (b : List UInt8) (x : UInt8) : hexP (b ++ [x]) = hexP b ++ [hexDigit (x.toNat / 16), hexDigit (x.toNat % 16)] := by simp [hexP]
theorem Row.new (w : World) (cs : List Value) (e : TypeId) (n : Nat) (hn : cs.length = n) (hm : n ≤ maxLen) : Row (w.alloc (.cells cs.toArray e)) e 1 (.slice (some ⟨w.heap.size, 0, none⟩) n n) n cs :=
  ⟨by omega, .inr ⟨_, n, _, rfl, Blk.new w e _, Nat.le_refl _, hm, by simp [hn], by simp [← hn]⟩⟩
theorem strOfNums_nat (l : List UInt8) : strOfNums (l.map fun x => (x.toNat : Int)) = ⟨l.toArray⟩ := by
  unfold strOfNums
  rw [List.map_map]
  have : ((fun n : Int => UInt8.ofNat n.toNat) ∘ fun x : UInt8 => (x.toNat : Int)) = id := by
    funext x
    simp
  rw [this, List.map_id]
/-- The string of bytes that are read. -/
theorem conv_bytes {w : World} {V : Value} {l : List UInt8} (h : By w V l) : (convert 22 9 V).run Tryd.prog w = .ok (.string ⟨l.toArray⟩) w := by
  rcases Nat.eq_zero_or_pos l.length with h0 | h0
  · obtain ⟨A, c, rfl, _, _⟩ := h.val
    have hl : l = [] := List.eq_nil_of_length_eq_zero h0
    subst hl
    cases A with
    | none => exact run_convert_bytes_nil w 22 5 Tryd.underlying22 Tryd.underlying5 0 c 9 Tryd.underlying9
    | some a =>
      have hl0 : (loadCells a 0).run Tryd.prog w = .ok (([] : List Int).map (Value.int .u8)).toArray w := run_loadCells_list (P := Tryd.prog) w a [] (fun j v hj => by simp at hj)
      rw [List.length_nil, run_convert_bytes_string w 22 9 5 (some a) 0 c Tryd.underlying22 Tryd.underlying5 Tryd.underlying9, run_bytesToString w a 0 c [] hl0]
      rfl
  · obtain ⟨b, o, c, rfl, _, _, _, hc⟩ := h.open_ h0
    have e := run_convert_bytes_arg (P := Tryd.prog) w 22 5 Tryd.underlying22 Tryd.underlying5 b o l.length c (l.map fun x => (x.toNat : Int)) (by simp) (fun i hi => by
      rw [hc i _ (List.getElem?_eq_getElem hi)]
      simp [List.getD, hi]) 9 Tryd.underlying9
    rw [e, strOfNums_nat]
/-- A row, or a slice that is full: what append makes a row of. -/
def RowM (w : World) (e : TypeId) (size : Nat) (v : Value) (n : Nat) (xs : List Value) : Prop :=
  Row w e size v n xs ∨ ∃ g, v = .slice (some ⟨g, 0, none⟩) n n ∧ n ≤ maxLen ∧ xs.length = n * size ∧ g < w.heap.size ∧ ∀ j u, xs[j]? = some u → w.cell? ⟨g, j, none⟩ = some u
theorem RowM.cs {w : World} {e : TypeId} {size n : Nat} {v : Value} {xs : List Value} (h : RowM w e size v n xs) : Cs w v n xs := by
  rcases h with h | ⟨g, rfl, hm, hl, hg, hc⟩
  · exact Cs.of_row h
  · exact ⟨_, _, rfl, Nat.le_refl _, hm, fun k u hk => ⟨g, 0, rfl, hg, by rw [Nat.zero_add]; exact hc k u hk⟩⟩
theorem run_append_m {t e : TypeId} {size bytes : Nat} (E : Elt t e size bytes) (hpos : 0 < size) (w : World) (ty : TypeId) {v x : Value} {n m : Nat} {xs news : List Value} (hr : RowM w e size v n xs) (hx : Cs w x m news) (hl : news.length = m * size) (h1 : ∀ u ∈ news, u.oneCell' = true)
    (hm0 : 0 < m) (h63 : n + m ≤ maxLen) (hbytes : (n + m) * bytes ≤ 140737488355328) :
    ∃ A' c' w', (Builtin.append_ #[t, t] ty #[v, x]).run Tryd.prog w = .ok (.slice A' (n + m) c') w' ∧ Row w' e size (.slice A' (n + m) c') (n + m) (xs ++ news) ∧ w.grownBy w' v.ownBlock ∧ (∀ k ∈ foot (.slice A' (n + m) c'), k ∈ foot v ∨ w.heap.size ≤ k) := by
  rcases hr with hr | ⟨g, rfl, hm, hxl, hg, hc⟩
  · exact run_append_cs E hpos w ty hr hx hl h1 h63 hbytes
  · obtain ⟨ht, i, z, hi, hz, hz1, hz2, hzs⟩ := E
    subst hz1 hz2
    obtain ⟨b, o, c, rfl, _, _, _, hcell⟩ := hx.open_ (by rw [hl]; exact Nat.mul_pos hm0 hpos)
    have hsmall : n + m ≤ 9223372036854775807 := by simp only [maxLen] at h63; omega
    have hr := run_append_grow (P := Tryd.prog) w t ty e i z ht hi hz ⟨g, 0, none⟩ n n xs hxl (fun j u hu => by
        have hadd : (⟨g, 0, none⟩ : Addr).add j = ⟨g, j, none⟩ := by unfold Addr.add; split <;> simp_all
        rw [hadd]; exact hc j u hu) ⟨b, o, none⟩ m c news hl (fun j u hu => by
        have hadd : (⟨b, o, none⟩ : Addr).add j = ⟨b, o + j, none⟩ := by unfold Addr.add; split <;> simp_all
        rw [hadd]; exact hcell j u hu) (by omega) (by omega) (growslice_fits (by omega) hbytes)
    have hlen : (xs ++ news).length = (n + m) * i.size := by rw [List.length_append, hxl, hl, Nat.add_mul]
    refine ⟨_, _, _, hr, ⟨hlen, .inr ⟨w.heap.size, _, _, rfl, heap_alloc_new w.drew _, grownCap_ge w (n + m) n e, grownCap_le_maxLen w (n + m) n e h63, ?_, ?_⟩⟩, ⟨rfl, rfl, rfl, by simp, fun k hk _ => Lib.alloc_old w.drew _ k hk⟩, fun k hk => ?_⟩
    · have hge := grownCap_ge w (n + m) n e
      simp only [Array.size_append, List.size_toArray, size_zeroCells, hzs, hxl, hl, ← Nat.add_mul]
      exact Nat.mul_le_mul_right _ (by omega)
    · simp only [Array.toList_append, List.append_assoc]
      rw [← List.append_assoc, ← hlen]
      exact List.take_left
    · simp [foot_some] at hk; right; omega
theorem step_append_m {t e : TypeId} {size bytes : Nat} (E : Elt t e size bytes) (hpos : 0 < size) (w : World) {ops : Array Oper} {o : Oper} {a : Act} {K : Act → World → Prop} {Q : Exit → Act → World → Prop} {R : Prop} (hgd : o.guard = none) (s y : Operand)
    (ho : o.op = .call { callee := .builtin .append, args := #[s, y], argTypes := #[t, t] })
    {v x : Value} {n m k : Nat} {xs news : List Value} (hs : a.eval s = v) (hy : a.eval y = x) (hr : RowM w e size v n xs) (hx : Cs w x m news) (hl : news.length = m * size) (h1 : ∀ u ∈ news, u.oneCell' = true)
    (hm0 : 0 < m) (h63 : n + m ≤ maxLen) (hbytes : (n + m) * bytes ≤ 140737488355328) (hk : k = n + m)
    (h : ∀ A' c' w', Row w' e size (.slice A' k c') k (xs ++ news) → w.grownBy w' v.ownBlock → (∀ j ∈ foot (.slice A' k c'), j ∈ foot v ∨ w.heap.size ≤ j) → K (a.put o.dst (.slice A' k c')) w') :
    if Region.wanted o (yielded ops a.tmps) = true then Oper.wp Tryd.prog o a w K Q else R := by
  have hw : Region.wanted o (yielded ops a.tmps) = true := by simp [Region.wanted, hgd]
  rw [if_pos hw]
  subst hk
  obtain ⟨A', c', w', h2, h3, h4, h5⟩ := run_append_m E hpos w o.type hr hx hl h1 hm0 h63 hbytes
  unfold Oper.wp execOp
  simp only [ho, resolve, invoke, builtin, Sem.run_bind, Sem.run_pure, Result.andThen_ok, List.map_toArray, List.map_cons, List.map_nil, hs, hy, h2]
  exact h A' c' w' h3 h4 h5
end Go.Proofs
end
section
namespace Go.Proofs
open Go.RowKit
set_option linter.unusedVariables false
set_option linter.unusedSimpArgs false

theorem Row.below {w w' : World} {e : TypeId} {size n : Nat} {v : Value} {xs : List Value} (h : Row w e size v n xs) (hb : Below w.heap.size w w') : Row w' e size v n xs := h.same fun k hk => hb.block k (h.lt k hk)
theorem RowM.below {w w' : World} {e : TypeId} {size n : Nat} {v : Value} {xs : List Value} (h : RowM w e size v n xs) (hb : Below w.heap.size w w') : RowM w' e size v n xs := by
  rcases h with h | ⟨g, rfl, hm, hl, hg, hc⟩
  · exact .inl (h.below hb)
  · exact .inr ⟨g, rfl, hm, hl, Nat.lt_of_lt_of_le hg hb.size, fun j u hu => (hb.cell (p := ⟨g, j, none⟩) hg).trans (hc j u hu)⟩
theorem Cs.new (w : World) (cs : List Value) (e : TypeId) (n : Nat) (hn : n ≤ maxLen) : Cs (w.alloc (.cells cs.toArray e)) (.slice (some ⟨w.heap.size, 0, none⟩) n n) n cs :=
  ⟨_, _, rfl, Nat.le_refl _, hn, fun k u hu => ⟨w.heap.size, 0, rfl, by simp, by rw [(Blk.new w e cs.toArray).cell]; simpa using hu⟩⟩
theorem rawMade (w : World) : RowM (w.alloc (.cells #[.int .u8 114, .int .u8 97, .int .u8 119, .int .u8 32] 5 (4, 5))) 5 1 (.slice (some ⟨w.heap.size, 0, none⟩) 4 4) 4 (bys rawB) :=
  .inr ⟨_, rfl, by unfold maxLen; omega, rfl, by simp, fun j u hu => by
    have hb : (w.alloc (.cells #[.int .u8 114, .int .u8 97, .int .u8 119, .int .u8 32] 5 (4, 5))).heap[w.heap.size]? = some (.cells #[.int .u8 114, .int .u8 97, .int .u8 119, .int .u8 32] 5 (4, 5)) := heap_alloc_new w _
    rw [cell_of_row _ _ _ _ 5 (4, 5) hb, ← hu]
    simp [Lib.byteCells]⟩
set_option maxHeartbeats 2000000 in
set_option maxRecDepth 100000 in
theorem bytesLine_any (V : Value) (l : List UInt8) (hm : l.length ≤ 100000) (w : World) (h : By w V l) : Calls Tryd.prog 39 #[V] w fun e w' => e = .returned (.string ⟨(rawP l).toArray⟩) ∧ Below w.heap.size w w' := by
  obtain ⟨A0, cap, rfl, hc1, hc2, hcell⟩ := h
  obtain ⟨n, hn⟩ : ∃ n, n = l.length := ⟨_, rfl⟩
  have hnH := Lib.hid hn
  rw [← hn] at hm hc1 ⊢
  have hcellH := Lib.hid hcell
  have hcv := Lib.run_convert_bytes_const (P := Tryd.prog) w 22 5 #[.int .u8 114, .int .u8 97, .int .u8 119, .int .u8 32] 4 4 Tryd.underlying22 Tryd.underlying5
  rw [show (#[Value.int .u8 114, .int .u8 97, .int .u8 119, .int .u8 32] : Array Value).size = 4 from rfl] at hcv
  have hM := Lib.hid (rawMade w)
  have hB0 := Lib.hid ((Below.refl w.heap.size w).alloc (Nat.le_refl _) (.cells #[.int .u8 114, .int .u8 97, .int .u8 119, .int .u8 32] 5 (4, 5)))
  clear hn hcell
  go_enter Tryd.func39, Tryd.ntmps39
  go_wp2
  go_loopw [3, 10] (fun v i wr => ∃ (k : Nat) (A : Option Addr) (c : Nat), v = .slice A (4 + 2 * k) c ∧ i = .int .i64 k ∧ k ≤ n ∧ Hid (RowM wr 5 1 (.slice A (4 + 2 * k) c) (4 + 2 * k) (bys (rawB ++ hexP (l.take k))) ∧ (∀ j ∈ foot (.slice A (4 + 2 * k) c), w.heap.size ≤ j) ∧ Below w.heap.size w wr)) (fun _ i _ => n - (intOf i).toNat)
  case atStart =>
    exact ⟨0, _, _, rfl, rfl, by omega, Lib.hid ⟨by simpa [hexP] using hM.out, fun j hj => by simp [foot_some] at hj; omega, hB0.out⟩⟩
  case round =>
    obtain ⟨k, A, c, rfl, rfl, hk, hI⟩ := hrel
    by_cases hkn : k < n
    · obtain ⟨x, hx⟩ : ∃ x, l[k]? = some x := ⟨_, List.getElem?_eq_getElem (by have := hnH.out; omega)⟩
      obtain ⟨g, off, rfl, hlt, hcx⟩ := hcellH.out k _ (bys_at hx)
      have hq : wr.cell? ⟨g, off + k, none⟩ = some (.int .u8 x.toNat) := (hI.out.2.2.cell (p := ⟨g, off + k, none⟩) hlt).trans hcx
      have hxl := x.toNat_lt
      obtain ⟨q2, hq2⟩ : ∃ q2 : Int, q2 = ((x.toNat % 16 : Nat) : Int) := ⟨_, rfl⟩
      obtain ⟨d1, hd1⟩ : ∃ d1, d1 = hexDigit (x.toNat / 16) := ⟨_, rfl⟩
      obtain ⟨d2, hd2⟩ : ∃ d2, d2 = hexDigit (x.toNat % 16) := ⟨_, rfl⟩
      have i1 := fun W => index_hex (x.toNat / 16) (by omega) W
      have i2 := fun W => index_hex (x.toNat % 16) (by omega) W
      have ha := and15 x
      rw [← hd1] at i1
      rw [← hq2] at ha i2
      rw [← hd2] at i2
      have hs : ((x.toNat / 16 : Nat) : Int) = (x.toNat : Int) / 16 := by omega
      rw [hs] at i1
      clear hq2 hs
      have hxH := Lib.hid hx
      have hd1H := Lib.hid hd1
      have hd2H := Lib.hid hd2
      clear hx hd1 hd2
      have hbd := below_drew ((Below.refl wr.heap.size wr).alloc (Nat.le_refl _) (.cells #[.int .u8 d1.toNat, .int .u8 d2.toNat] 5))
      have hM2 := Lib.hid (hI.out.1.below hbd)
      have hC2 := Lib.hid (show Cs (wr.alloc (.cells #[.int .u8 d1.toNat, .int .u8 d2.toNat] 5)).drew (.slice (some ⟨wr.heap.size, 0, none⟩) 2 2) 2 (bys [d1, d2]) from Cs.new wr (bys [d1, d2]) 5 2 (by unfold maxLen; omega))
      have hbdH := Lib.hid hbd
      clear hbd
      go_wp2
      go_region_law (refine step_append_m elt_bytes (by decide) _ rfl _ _ (by rfl) (by rfl) (by rfl) hM2.out hC2.out rfl (bys_one _) (by decide) (by unfold maxLen; omega) (by omega) (k := 4 + 2 * (k + 1)) (by omega) ?_; intro A' c' w' hr hg hf)
      all_goals
        go_wp2
        go_roundw
        case rel =>
          have hxx := hxH.out
          refine ⟨k + 1, _, _, rfl, by simp, by omega, Lib.hid ⟨.inl ?_, fun j hj => ?_, ?_⟩⟩
          · have e : bys (rawB ++ hexP (l.take (k + 1))) = bys (rawB ++ hexP (l.take k)) ++ bys [d1, d2] := by
              rw [List.take_add_one, hxx, Option.toList_some, hexP_snoc, ← bys_append, List.append_assoc, hd1H.out, hd2H.out]
            rw [e]; exact hr
          · rcases hf j hj with h1 | h1
            · exact hI.out.2.1 j h1
            · have := hI.out.2.2.size
              have := hbdH.out.size
              omega
          · have hb1 := hI.out.2.2.trans (hbdH.out.mono hI.out.2.2.size)
            exact hb1.grown hg (by have := hb1.size; omega) (fun q hq => hI.out.2.1 q (row_mem hq))
        case measure => simp [intOf]; omega
    · obtain rfl : k = n := by omega
      have hcb := conv_bytes (w := wr) (V := .slice A (4 + 2 * k) c) (l := rawB ++ hexP (l.take k)) (by
        have := hI.out.1.cs
        have e : (rawB ++ hexP (l.take k)).length = 4 + 2 * k := by
          rw [List.length_append, hexP_length, List.length_take]; have := hnH.out; simp; omega
        unfold By; rw [e]; exact this)
      have e : rawB ++ hexP (l.take k) = rawP l := by rw [hnH.out, List.take_length]; rfl
      rw [e] at hcb
      have hB := Lib.hid hI.out.2.2
      clear hI e
      go_wp2
      go_ret
      exact ⟨rfl, hB.out⟩
end Go.Proofs
end
section
namespace Go.Proofs
open Go.RowKit
set_option linter.unusedVariables false
set_option linter.unusedSimpArgs false

theorem str_append (a b : List UInt8) : (⟨a.toArray⟩ : ByteArray) ++ ⟨b.toArray⟩ = ⟨(a ++ b).toArray⟩ := by
  apply ByteArray.ext
  rw [ByteArray.data_append]
  simp
theorem lineP_short {l : List UInt8} (h : l.length ≠ 4) : lineP l = rawP l := by
  rcases line_cases l with e | ⟨x, rfl, _⟩
  · exact e
  · exact absurd rfl h
abbrev Ins.arr (x : Ins) : Array Value := #[.int .u8 x.o.toNat, .int .u8 x.a.toNat, .int .u8 x.b.toNat, .int .u8 x.c.toNat]
def putIns (w : World) (b : Nat) (x : Ins) : World := (((w.setCell ⟨b, 0, none⟩ (.int .u8 x.o.toNat)).setCell ⟨b, 1, none⟩ (.int .u8 x.a.toNat)).setCell ⟨b, 2, none⟩ (.int .u8 x.b.toNat)).setCell ⟨b, 3, none⟩ (.int .u8 x.c.toNat)
theorem putIns_at {w : World} {b : Nat} {y : Ins} (h : Blk w b 26 y.arr) (x : Ins) : Blk (putIns w b x) b 26 x.arr := by
  have := (((h.set_ 0 (.int .u8 x.o.toNat)).set_ 1 (.int .u8 x.a.toNat)).set_ 2 (.int .u8 x.b.toNat)).set_ 3 (.int .u8 x.c.toNat)
  exact this
theorem putIns_other (w : World) (b k : Nat) (x : Ins) (h : k ≠ b) : (putIns w b x).heap[k]? = w.heap[k]? := by
  unfold putIns
  rw [Below.heap_setCell _ _ _ _ h, Below.heap_setCell _ _ _ _ h, Below.heap_setCell _ _ _ _ h, Below.heap_setCell _ _ _ _ h]
theorem putIns_below {B : Nat} {a w : World} (h : Below B a w) {b : Nat} (hb : B ≤ b) (x : Ins) : Below B a (putIns w b x) :=
  (((h.setCell (p := ⟨b, 0, none⟩) hb _).setCell (p := ⟨b, 1, none⟩) hb _).setCell (p := ⟨b, 2, none⟩) hb _).setCell (p := ⟨b, 3, none⟩) hb _
def restP (x : Ins) (ls : List UInt8) : Ins := ls.foldl (fun r l => r.with l 0) x
def tellP (x : Ins) (ls : List UInt8) : List UInt8 := ls.flatMap fun l => bn (x.named l)
theorem restP_snoc (x : Ins) (ls : List UInt8) (l : UInt8) : restP x (ls ++ [l]) = (restP x ls).with l 0 := by simp [restP]
theorem tellP_snoc (x : Ins) (ls : List UInt8) (l : UInt8) : tellP x (ls ++ [l]) = tellP x ls ++ bn (x.named l) := by simp [tellP]
theorem lineC_one {x : Ins} (h : isOneP x = true) : lineC x = if (((restP x (formOr x.o).2).a ||| (restP x (formOr x.o).2).b) ||| (restP x (formOr x.o).2).c) ≠ 0 then rawP x.bytes else (formOr x.o).1 ++ tellP x (formOr x.o).2 := by
  unfold lineC formOr
  unfold isOneP at h
  cases hf : formP x.o with
  | none => rw [hf] at h; cases h
  | some f =>
    simp only
    rw [if_neg (by unfold isOneP; rw [hf] at h ⊢; rw [h]; decide)]
    rfl
theorem lineC_raw {x : Ins} (h : isOneP x = false) : lineC x = rawP x.bytes := by
  unfold lineC
  cases hf : formP x.o with
  | none => rfl
  | some f => simp only; rw [if_pos h]
theorem named_in (x : Ins) (l : UInt8) : -40000 ≤ x.named l ∧ x.named l ≤ 70000 := by
  have := x.a.toNat_lt; have := x.b.toNat_lt; have := x.c.toNat_lt; have := x.num_lt; have := x.jump_in
  unfold Ins.named
  repeat' split
  all_goals omega
theorem u8_or (a b : UInt8) : bits BinOp.or IntKind.u8 (a.toNat : Int) (b.toNat : Int) = ((a ||| b).toNat : Int) := by
  have ha := a.toNat_lt; have hb := b.toNat_lt
  rw [UInt8.toNat_or]
  exact u8_or_nat a.toNat b.toNat ha hb
theorem form_small (o : UInt8) : (formOr o).1.length ≤ 5 ∧ (formOr o).2.length ≤ 3 := by
  unfold formOr
  rcases kinds o with (rfl | rfl | rfl | rfl | rfl | rfl | rfl | rfl | h) | h
  all_goals first
    | (rw [form_call h]; decide)
    | (rw [form_none h]; decide)
    | decide
theorem tellP_length (x : Ins) (ls : List UInt8) : (tellP x ls).length ≤ 7 * ls.length := by
  unfold tellP
  induction ls with
  | nil => simp
  | cons l r ih =>
    have := named_in x l
    have := bn_length (n := x.named l) (by omega) (by omega)
    rw [List.flatMap_cons, List.length_append]
    simp only [List.length_cons]; omega
set_option maxHeartbeats 4000000 in
set_option maxRecDepth 100000 in
theorem line_any (V : Value) (l : List UInt8) (h4 : l.length ≤ 4) (m : Nat) (w : World) (hF : FormsAt w m) (hT : Ta w) (h : By w V l) : Calls Tryd.prog 28 #[.map (some m), V] w fun e w' => e = .returned (.string ⟨(lineP l).toArray⟩) ∧ Below w.heap.size w w' := by
  by_cases h4' : l.length = 4
  · obtain ⟨x, rfl⟩ : ∃ x : Ins, l = x.bytes := by
      match l, h4' with
      | [o, a, b, c], _ => exact ⟨⟨o, a, b, c⟩, rfl⟩
    rw [← lineC_line]
    have hB := fun W (hb : Below w.heap.size w W) => bytesLine_any V x.bytes (by simp [Ins.bytes]) W (h.below hb)
    have hX := fun W (hb : Below w.heap.size w W) => four_any V x.o x.a x.b x.c [] W (h.below hb)
    have hI := fun W (hb : Below w.heap.size w W) => isOne_any x m W (hF.below hb)
    have hO := fun W (hb : Below w.heap.size w W) => formOf_any x.o m W (hF.below hb)
    obtain ⟨A, cap, rfl, _⟩ := h.val
    rw [show x.bytes.length = 4 from rfl] at hB hX ⊢
    cases hone : isOneP x
    · rw [lineC_raw hone]
      rw [hone] at hI
      obtain ⟨res, hres⟩ : ∃ res, res = rawP x.bytes := ⟨_, rfl⟩
      rw [← hres] at hB ⊢
      obtain ⟨xv, hxv⟩ : ∃ xv, xv = x.val := ⟨_, rfl⟩
      have hX : ∀ W, Below w.heap.size w W → Calls Tryd.prog 22 #[.slice A 4 cap] W fun e w' => e = .returned xv ∧ Below W.heap.size W w' := by rw [hxv]; exact hX
      rw [← hxv] at hI
      clear hres hxv hO hone h
      go_enter Tryd.func28, Tryd.ntmps28
      go_wp2_with (first
        | (go_at_call 22; refine (hX w (Below.refl _ _)).mono ?_; rintro e w1 ⟨rfl, hb1⟩)
        | (go_at_call 23; refine (hI _ hb1).mono ?_; rintro e w2 ⟨rfl, hb2⟩; have hb3 := hb1.trans (hb2.mono hb1.size); clear hb2)
        | (go_at_call 39; refine (hB _ hb3).mono ?_; rintro e w4 ⟨rfl, hb4⟩))
      go_ret
      exact ⟨rfl, hb3.trans (hb4.mono hb3.size)⟩
    · have hres0 := lineC_one hone
      rw [hone] at hI
      have hN := fun l hl W => named_any x l hl W
      have hW := fun y l hl W => with_any y l 0 hl (by decide) (by decide) W
      have hA := fun (n : Int) h0 h1 W hb => itoa_any n h0 h1 W (hT.below (w' := W) hb)
      have hlet := form_letters x.o
      have hsm := form_small x.o
      have hsome : (formP x.o).isSome = true := by
        unfold isOneP at hone
        cases hf : formP x.o with
        | none => rw [hf] at hone; cases hone
        | some f => rfl
      rw [hsome] at hO
      obtain ⟨f, hf⟩ : ∃ f, f = formOr x.o := ⟨_, rfl⟩
      rw [← hf] at hO hlet hres0 hsm
      obtain ⟨wd, nm⟩ := f
      unfold formV at hO
      simp only at hO hlet hres0 hsm
      obtain ⟨res, hres⟩ : ∃ res, res = lineC x := ⟨_, rfl⟩
      rw [← hres] at hres0 ⊢
      have hresH := Lib.hid hres0
      have hsmH := Lib.hid hsm
      have hletH := Lib.hid hlet
      have hX : ∀ W, Below w.heap.size w W → Calls Tryd.prog 22 #[.slice A 4 cap] W fun e w' => e = .returned (.agg x.arr) ∧ Below W.heap.size W w' := hX
      have hI : ∀ W, Below w.heap.size w W → Calls Tryd.prog 23 #[.map (some m), .agg x.arr] W fun e w' => e = .returned (.bool true) ∧ Below W.heap.size W w' := hI
      have hN : ∀ l, isLetter l → ∀ W, Calls Tryd.prog 41 #[.agg x.arr, .int .i32 l.toNat] W fun e w' => e = .returned (.int .i64 (x.named l)) ∧ Below W.heap.size W w' := hN
      have hW : ∀ y : Ins, ∀ l, isLetter l → ∀ W, Calls Tryd.prog 42 #[.agg y.arr, .int .i32 l.toNat, .int .i64 0] W fun e w' => e = .returned (.agg (y.with l 0).arr) ∧ Below W.heap.size W w' := hW
      have hNH := Lib.hid hN
      have hWH := Lib.hid hW
      have hAH := Lib.hid hA
      clear hone hres hf hres0 hlet h hN hW hA hsome hsm
      go_enter Tryd.func28, Tryd.ntmps28
      go_wp2_with (first
        | (go_at_call 23; refine (hI _ hb1).mono ?_; rintro e w2 ⟨rfl, hb2⟩; have hb3 := hb1.trans (hb2.mono hb1.size); clear hb2 hI)
        | (go_at_call 22; refine (hX _ hb3).mono ?_; rintro e w4 ⟨rfl, hb4⟩; have hb5 := hb3.trans (hb4.mono hb3.size); clear hb4 hX)
        | (go_at_call 22; refine (hX w (Below.refl _ _)).mono ?_; rintro e w1 ⟨rfl, hb1⟩)
        | (go_at_call 35; refine (hO _ (hb5.alloc hb5.size _)).mono ?_; rintro e w6 ⟨rfl, hb6⟩))
      have hlt4 : w4.heap.size < w6.heap.size := by have := hb6.size; simp at this; omega
      have hx6 : w6.heap[w4.heap.size]? = some (.cells x.arr 26 (0, 0)) := by
        rw [hb6.block w4.heap.size (by simp)]; exact heap_alloc_new w4 _
      have hbw6 : Below w.heap.size w w6 := (hb5.alloc hb5.size _).trans (hb6.mono (by simp; have := hb5.size; omega))
      have c6 := fun i => cell_of_row w6 w4.heap.size i x.arr 26 (0, 0) hx6
      have k0 := c6 0
      have k1 := c6 1
      have k2 := c6 2
      have k3 := c6 3
      simp only [List.getElem?_toArray, List.getElem?_cons_zero, List.getElem?_cons_succ] at k0 k1 k2 k3
      have hx6H := Lib.hid hx6
      clear c6 hx6 hb6
      go_region
      all_goals go_wp2
      obtain ⟨W0, hW0⟩ : ∃ W0, W0 = (((w6.alloc (.cells #[.string ⟨wd.toArray⟩, .string ⟨nm.toArray⟩] 72)).alloc (.cells x.arr 26)).drew.iter ⟨nm.toArray⟩ 0) := ⟨_, rfl⟩
      have hs0 : Hid (W0.heap[w6.heap.size + 1 + 1]? = some (.stringIter ⟨nm.toArray⟩ 0) ∧ W0.heap[w6.heap.size + 1]? = some (.cells x.arr 26 (0, 0)) ∧ W0.heap[w4.heap.size]? = some (.cells x.arr 26 (0, 0)) ∧ Below w.heap.size w W0) := by
        have hsz := hbw6.size
        refine Lib.hid ⟨?_, ?_, ?_, ?_⟩
        · have := World.iter_heap ((w6.alloc (.cells #[.string ⟨wd.toArray⟩, .string ⟨nm.toArray⟩] 72)).alloc (.cells x.arr 26)).drew ⟨nm.toArray⟩ 0
          rw [hW0]; simpa using this
        · rw [hW0]
          refine (Lib.alloc_old _ _ _ (by simp)).trans ?_
          show ((w6.alloc (.cells #[.string ⟨wd.toArray⟩, .string ⟨nm.toArray⟩] 72)).alloc (.cells x.arr 26)).heap[w6.heap.size + 1]? = _
          have := heap_alloc_new (w6.alloc (.cells #[.string ⟨wd.toArray⟩, .string ⟨nm.toArray⟩] 72)) (.cells x.arr 26)
          simpa using this
        · rw [hW0]
          refine (Lib.alloc_old _ _ _ (by simp; omega)).trans ?_
          show ((w6.alloc (.cells #[.string ⟨wd.toArray⟩, .string ⟨nm.toArray⟩] 72)).alloc (.cells x.arr 26)).heap[w4.heap.size]? = _
          rw [Lib.alloc_old _ _ _ (by simp; omega), Lib.alloc_old _ _ _ hlt4]
          exact hx6H.out
        · rw [hW0]
          exact (below_drew ((hbw6.alloc hsz _).alloc (by simp; omega) _)).alloc (by simp; omega) _
      have hszW : Hid (w4.heap.size < w6.heap.size ∧ w.heap.size ≤ w4.heap.size) := Lib.hid ⟨hlt4, hb5.size⟩
      rw [← hW0]
      clear hW0 k0 k1 k2 k3 hx6H hbw6 hb5 hb3 hb1 hlt4
      go_loopw [8] (fun tx wr => ∃ (pos : Nat), tx = .string ⟨(wd ++ tellP x (nm.take pos)).toArray⟩ ∧ Hid (pos ≤ nm.length ∧ wr.heap[w6.heap.size + 1 + 1]? = some (.stringIter ⟨nm.toArray⟩ pos) ∧ wr.heap[w6.heap.size + 1]? = some (.cells (restP x (nm.take pos)).arr 26 (0, 0)) ∧ wr.heap[w4.heap.size]? = some (.cells x.arr 26 (0, 0)) ∧ Below w.heap.size w wr)) (fun _ wr => nm.length - wr.iterPos (w6.heap.size + 1 + 1))
      case atStart => exact ⟨0, by simp [tellP], Lib.hid ⟨by omega, hs0.out.1, by simpa [restP] using hs0.out.2.1, hs0.out.2.2.1, hs0.out.2.2.2⟩⟩
      case round =>
        obtain ⟨pos, rfl, hH⟩ := hrel
        obtain ⟨hpos, hit, hr9, hx5, hbw⟩ := hH.out
        have hH9 := hH
        obtain ⟨hlt4, hle4⟩ := hszW.out
        have hszr : w6.heap.size + 1 + 1 < wr.heap.size := (Array.getElem?_eq_some_iff.1 hit).1
        by_cases hp : pos < nm.length
        · obtain ⟨l, hl⟩ : ∃ l, nm[pos]? = some l := ⟨_, List.getElem?_eq_getElem hp⟩
          have hll := hletH.out l (List.mem_of_getElem? hl)
          have hnx := next_at (w := wr) hit hl (letter_lt hll)
          obtain ⟨W1, hW1⟩ : ∃ W1, W1 = wr.iterAt (w6.heap.size + 1 + 1) ⟨nm.toArray⟩ (pos + 1) := ⟨_, rfl⟩
          rw [← hW1] at hnx
          have hit2 : W1.heap[w6.heap.size + 1 + 1]? = some (.stringIter ⟨nm.toArray⟩ (pos + 1)) := by rw [hW1]; exact Lib.iterAt_heap wr _ ⟨nm.toArray⟩ pos (pos + 1) hit
          have hb1 : Below w.heap.size w W1 := by rw [hW1]; exact Lib.below_iterAt hbw (by omega) ⟨nm.toArray⟩ (pos + 1)
          have hr1 : W1.heap[w6.heap.size + 1]? = some (.cells (restP x (nm.take pos)).arr 26 (0, 0)) := by rw [hW1, Lib.iterAt_other _ _ _ _ _ (by omega)]; exact hr9
          have hx1 : W1.heap[w4.heap.size]? = some (.cells x.arr 26 (0, 0)) := by rw [hW1, Lib.iterAt_other _ _ _ _ _ (by omega)]; exact hx5
          have hs1 : W1.heap.size = wr.heap.size := by rw [hW1, Lib.iterAt_size]
          have cx := fun i => cell_of_row W1 w4.heap.size i x.arr 26 (0, 0) hx1
          have k0 := cx 0
          have k1 := cx 1
          have k2 := cx 2
          have k3 := cx 3
          simp only [List.getElem?_toArray, List.getElem?_cons_zero, List.getElem?_cons_succ] at k0 k1 k2 k3
          have hN1 := hNH.out l hll W1
          obtain ⟨nv, hnv⟩ : ∃ nv, nv = x.named l := ⟨_, rfl⟩
          have hnin := named_in x l
          rw [← hnv] at hN1 hnin
          have htake : nm.take (pos + 1) = nm.take pos ++ [l] := by rw [List.take_add_one, hl]; rfl
          obtain ⟨R, hR⟩ : ∃ R, R = restP x (nm.take pos) := ⟨_, rfl⟩
          rw [← hR] at hr1
          have hW2 := fun W => hWH.out R l hll W
          have hbH := Lib.hid (⟨hit2, hr1, hx1, hs1, hb1, hszr⟩ : _ ∧ _ ∧ _ ∧ _ ∧ _ ∧ _)
          have hpH := Lib.hid (⟨hp, hl, htake, hnv, hR⟩ : _ ∧ _ ∧ _ ∧ _ ∧ _)
          have hA1 := fun W hb => hAH.out nv (by omega) (by omega) W hb
          obtain ⟨tB, htB⟩ : ∃ tB : ByteArray, tB = ⟨(wd ++ tellP x (nm.take pos)).toArray⟩ := ⟨_, rfl⟩
          obtain ⟨nB, hnB⟩ : ∃ nB : ByteArray, nB = ⟨(Lib.itoa nv).toArray⟩ := ⟨_, rfl⟩
          have hz1 : nB.size ≤ 6 := by rw [hnB, str_size]; exact itoa_length (by omega) (by omega)
          have hz2 : tB.size ≤ 1000 := by
            rw [htB, str_size, List.length_append]
            have := tellP_length x (nm.take pos)
            have := hsmH.out
            rw [List.length_take] at *
            omega
          rw [← htB]
          rw [← hnB] at hA1
          have htBH := Lib.hid htB
          have hnBH := Lib.hid hnB
          clear htB hnB
          clear hbw hx5 hr9 hit hpos hH hW1 hp hl htake hnv hR cx hlt4 hle4 hszr hs1 hit2 hx1 hr1 hnin
          go_wp2_with (first
            | (go_at_call 41; refine hN1.mono ?_; rintro e w2 ⟨rfl, hb2⟩)
            | (go_at_call 40; refine (hA1 _ (hb1.trans (hb2.mono hb1.size))).mono ?_; rintro e w3 ⟨rfl, hb3⟩
               have hb23 := hb2.trans (hb3.mono hb2.size)
               have hb4 := hb1.trans (hb23.mono hb1.size)
               have c9 := fun i => cell_of_row w3 (w6.heap.size + 1) i R.arr 26 (0, 0) ((hb23.block _ (by rw [hbH.out.2.2.2.1]; have := hbH.out.2.2.2.2.2; omega)).trans hbH.out.2.1)
               have j0 := c9 0
               have j1 := c9 1
               have j2 := c9 2
               have j3 := c9 3
               simp only [List.getElem?_toArray, List.getElem?_cons_zero, List.getElem?_cons_succ] at j0 j1 j2 j3
               clear c9))
          have hW3 := hW2 w3
          clear hW2 hA1 hN1 hb2 hb3
          go_wp2_with (go_at_call 42; refine hW3.mono ?_; rintro e w7 ⟨rfl, hb7⟩
                       have hb27 := hb23.trans (hb7.mono hb23.size)
                       have hblk := Lib.hid ((hb27.block _ (by rw [hbH.out.2.2.2.1]; have := hbH.out.2.2.2.2.2; omega)).trans hbH.out.2.1)
                       have hblk2 : Blk w7 (w6.heap.size + 1) 26 R.arr := hblk.out
                       have c7 := fun i => cell_of_row w7 (w6.heap.size + 1) i R.arr 26 (0, 0) hblk.out
                       have f0 := hblk2.frozen 0
                       have f1 := hblk2.frozen 1
                       have f2 := hblk2.frozen 2
                       have f3 := hblk2.frozen 3
                       have m0 := c7 0
                       have m1 := c7 1
                       have m2 := c7 2
                       have m3 := c7 3
                       simp only [List.getElem?_toArray, List.getElem?_cons_zero, List.getElem?_cons_succ] at m0 m1 m2 m3
                       clear c7 hblk2)
          go_roundw
          case rel =>
            obtain ⟨g1, g2, g3, g4, g5, g6⟩ := hbH.out
            obtain ⟨p1, p2, p3, p4, p5⟩ := hpH.out
            obtain ⟨e4, e5⟩ := hszW.out
            refine ⟨pos + 1, ?_, Lib.hid ⟨by omega, ?_, ?_, ?_, ?_⟩⟩
            · rw [htBH.out, hnBH.out, show ({ data := #[32] } : ByteArray) = ⟨[32].toArray⟩ from rfl, str_append, str_append, p3, tellP_snoc]
              congr 3
              rw [List.append_assoc]
              congr 2
              unfold bn; rw [p4]; rfl
            · refine (putIns_other w7 _ _ (R.with l 0) (by omega)).trans ?_
              rw [hb27.block _ (by rw [g4]; omega)]; exact g1
            · rw [p3, restP_snoc, ← p5]
              exact putIns_at (y := R) hblk.out (R.with l 0)
            · refine (putIns_other w7 _ _ (R.with l 0) (by omega)).trans ?_
              rw [hb27.block _ (by rw [g4]; omega)]; exact g3
            · exact putIns_below (g5.trans (hb27.mono g5.size)) (by omega) (R.with l 0)
          case measure =>
            obtain ⟨g1, g2, g3, g4, g5, g6⟩ := hbH.out
            obtain ⟨p1, p2, p3, p4, p5⟩ := hpH.out
            obtain ⟨_, hit, _⟩ := hH9.out
            have e : (putIns w7 (w6.heap.size + 1) (R.with l 0)).heap[w6.heap.size + 1 + 1]? = some (.stringIter ⟨nm.toArray⟩ (pos + 1)) := by
              rw [putIns_other _ _ _ _ (by omega), hb27.block _ (by rw [g4]; omega)]; exact g1
            show nm.length - World.iterPos (putIns w7 (w6.heap.size + 1) (R.with l 0)) (w6.heap.size + 1 + 1) < nm.length - wr.iterPos (w6.heap.size + 1 + 1)
            simp only [World.iterPos, e, hit]
            omega
        · have hpe : pos = nm.length := by omega
          subst hpe
          have hnx : ∀ ty, (Instr.next (.pointer (some ⟨w6.heap.size + 1 + 1, 0, none⟩)) true ty).run Tryd.prog wr = _ := fun ty => Lib.run_next_end_at wr (w6.heap.size + 1 + 1) ⟨nm.toArray⟩ nm.length ty hit (by rw [str_size]; omega)
          rw [List.take_length] at hr9 ⊢
          have hres := hresH.out
          obtain ⟨R, hR⟩ : ∃ R, R = restP x nm := ⟨_, rfl⟩
          rw [← hR] at hr9 hres
          have c9 := fun i => cell_of_row wr (w6.heap.size + 1) i R.arr 26 (0, 0) hr9
          have j0 := c9 0
          have j1 := c9 1
          have j2 := c9 2
          have j3 := c9 3
          simp only [List.getElem?_toArray, List.getElem?_cons_zero, List.getElem?_cons_succ] at j0 j1 j2 j3
          have o1 := u8_or R.a R.b
          have o2 := u8_or (R.a ||| R.b) R.c
          have hB1 := hB wr hbw
          have hbwH := Lib.hid hbw
          obtain ⟨ab, hab⟩ : ∃ ab : Int, ab = ((R.a ||| R.b).toNat : Int) := ⟨_, rfl⟩
          obtain ⟨abc, habc⟩ : ∃ abc : Int, abc = (((R.a ||| R.b) ||| R.c).toNat : Int) := ⟨_, rfl⟩
          rw [← hab] at o1 o2
          rw [← habc] at o2
          by_cases hz : (R.a ||| R.b) ||| R.c = 0
          · have habc0 : abc = 0 := by rw [habc, hz]; rfl
            rw [if_neg (by rw [hz]; decide)] at hres
            subst habc0
            have hresH2 := Lib.hid hres
            clear hres hab habc hz hbw hr9 hx5 hit hpos hp hH hR hB hB1 c9 hlt4 hle4 hszr
            go_wp2
            go_ret
            exact ⟨by rw [hresH2.out]; rfl, hbwH.out⟩
          · have habc0 : abc ≠ 0 := fun e => hz (UInt8.toNat_inj.1 (by rw [habc] at e; show _ = 0; omega))
            rw [if_pos hz] at hres
            have hq : (abc != 0) = true := by simpa using habc0
            have hresH2 := Lib.hid hres
            clear hres hab habc hz hbw hr9 hx5 hit hpos hp hH hR hB c9 hlt4 hle4 hszr habc0
            go_wp2_with (go_at_call 39; refine hB1.mono ?_; rintro e w8 ⟨rfl, hb8⟩)
            go_ret
            exact ⟨by rw [hresH2.out]; rfl, hbwH.out.trans (hb8.mono hbwH.out.size)⟩
  · rw [lineP_short h4']
    have hB := bytesLine_any V l (by omega) w h
    obtain ⟨res, hres⟩ : ∃ res, res = rawP l := ⟨_, rfl⟩
    rw [← hres] at hB ⊢
    obtain ⟨A, cap, rfl, _⟩ := h.val
    obtain ⟨n, hn⟩ : ∃ n, n = l.length := ⟨_, rfl⟩
    rw [← hn] at hB h4' ⊢
    have hq : ((n : Int) != 4) = true := by simp; omega
    clear hn h hres
    go_enter Tryd.func28, Tryd.ntmps28
    go_wp2_with (go_at_call 39; refine hB.mono ?_; rintro e w' ⟨rfl, hb⟩)
    go_ret
    exact ⟨rfl, hb⟩
end Go.Proofs
end
