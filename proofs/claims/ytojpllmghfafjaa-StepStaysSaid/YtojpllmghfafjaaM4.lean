import Derived.Lib.OthersKept
import Derived.Deep.RegionLaw
import Derived.Lib.SlBytesConst
import Derived.Laws.BytesArg
import Derived.Test.YtojpllmghfafjaaM3
import Derived.Laws.MakeOwn
import Derived.Deep.RegionWith
section
namespace Go.Proofs
open Go.RowKit
set_option linter.unusedVariables false
set_option linter.unusedSimpArgs false

theorem str_get (l : List UInt8) (k : Nat) (h : k < (⟨l.toArray⟩ : ByteArray).size) : (⟨l.toArray⟩ : ByteArray)[k]'h = l[k]'(by simpa [ByteArray.size] using h) := by
  rfl
theorem str_size (l : List UInt8) : (⟨l.toArray⟩ : ByteArray).size = l.length := by simp [ByteArray.size]
/-- The next letter of a text. -/
theorem next_at {w : World} {k : Nat} {l : List UInt8} {pos : Nat} (hit : w.heap[k]? = some (.stringIter ⟨l.toArray⟩ pos)) {x : UInt8} (hx : l[pos]? = some x) (ha : x.toNat < 128) (ty : TypeId) :
    (Instr.next (.pointer (some ⟨k, 0, none⟩)) true ty).run Try.prog w = .ok (.tuple #[.bool true, .int .i64 pos, .int .i32 x.toNat]) (w.iterAt k ⟨l.toArray⟩ (pos + 1)) := by
  obtain ⟨hp, rfl⟩ := List.getElem?_eq_some_iff.1 hx
  have hp' : pos < (⟨l.toArray⟩ : ByteArray).size := by rw [str_size]; exact hp
  have e := str_get l pos hp'
  rw [Lib.run_next_ascii_at w k ⟨l.toArray⟩ pos ty hit hp' (by rw [e]; exact ha), e]
/-- The letters of an op's form. -/
theorem form_letters (o : UInt8) : ∀ l ∈ (formOr o).2, isLetter l := by
  unfold formOr
  rcases kinds o with (rfl | rfl | rfl | rfl | rfl | rfl | rfl | rfl | h) | h
  all_goals first
    | (rw [form_call h]; intro l hl; simp at hl; subst hl; simp [isLetter])
    | (rw [form_none h]; intro l hl; simp at hl)
    | (intro l hl; simp [formP, formAt, formsL] at hl; rcases hl with rfl | rfl | rfl <;> simp [isLetter])
    | (intro l hl; simp [formP, formAt, formsL] at hl; rcases hl with rfl | rfl <;> simp [isLetter])
    | (intro l hl; simp [formP, formAt, formsL] at hl; rcases hl with rfl <;> simp [isLetter])
    | (intro l hl; simp [formP, formAt, formsL] at hl)
theorem letter_lt {l : UInt8} (h : isLetter l) : l.toNat < 128 := by
  rcases h with rfl | rfl | rfl | rfl | rfl | rfl <;> decide
theorem isOneP_eq (x : Ins) : isOneP x = ((formP x.o).isSome && (formOr x.o).2.all fun l => !noReg x l) := by
  unfold isOneP formOr
  cases formP x.o <;> rfl
theorem Below.same {B : Nat} {a b : World} (h : Below B a b) {k : Nat} (hk : k < B) : b.heap[k]? = a.heap[k]? := h.block k hk
set_option maxHeartbeats 2000000 in
set_option maxRecDepth 100000 in
theorem isOne_any (x : Ins) (m : Nat) (w : World) (h : FormsAt w m) : Calls Try.prog 24 #[.map (some m), x.val] w fun e w' => e = .returned (.bool (isOneP x)) ∧ Below w.heap.size w w' := by
  have hF := formOf_any x.o m _ (h.below ((Below.refl w.heap.size w).alloc (Nat.le_refl _) (.cells #[.int .u8 x.o.toNat, .int .u8 x.a.toNat, .int .u8 x.b.toNat, .int .u8 x.c.toNat] 45)))
  have hR := noReg_any x
  have hlet := form_letters x.o
  rw [isOneP_eq]
  obtain ⟨f, hf⟩ : ∃ f, f = formOr x.o := ⟨_, rfl⟩
  obtain ⟨B, hB⟩ : ∃ B, B = (formP x.o).isSome := ⟨_, rfl⟩
  rw [← hf] at hF hlet ⊢
  rw [← hB] at hF ⊢
  obtain ⟨wd, nm⟩ := f
  clear hf hB h
  obtain ⟨nr, hnr⟩ : ∃ nr : UInt8 → Bool, nr = fun l => noReg x l := ⟨_, rfl⟩
  replace hR : ∀ l, isLetter l → ∀ w, Calls Try.prog 35 #[x.val, .int .i32 l.toNat] w fun e w' => e = .returned (.bool (nr l)) ∧ Below w.heap.size w w' := fun l hl w => by rw [hnr]; exact hR l hl w
  have hgoal : (nm.all fun l => !noReg x l) = nm.all fun l => !nr l := by rw [hnr]
  simp only at hlet ⊢
  rw [hgoal]
  clear hgoal hnr
  obtain ⟨o, a, b, c⟩ := x
  rw [Ins.val_eq] at hR ⊢
  unfold formV at hF
  simp only at hF
  obtain ⟨res, hres⟩ : ∃ res, res = (B && nm.all fun l => !nr l) := ⟨_, rfl⟩
  rw [← hres]
  have hresH := Lib.hid hres
  clear hres
  have hFH := Lib.hid hF
  have hRH := Lib.hid hR
  have hletH := Lib.hid hlet
  clear hF hR hlet
  go_enter Try.func24, Try.ntmps24
  go_wp2_with (go_at_call 34; refine hFH.out.mono ?_; rintro e w1 ⟨rfl, hb1⟩)
  have hsz1 : w.heap.size + 1 ≤ w1.heap.size := by have := hb1.size; simpa using this
  have hbw1 : Below w.heap.size w w1 := ((Below.refl _ _).alloc (Nat.le_refl _) _).trans (hb1.mono (by simp))
  have hbox : w1.heap[w.heap.size]? = some (.cells #[.int .u8 o.toNat, .int .u8 a.toNat, .int .u8 b.toNat, .int .u8 c.toNat] 45 (0, 0)) := by
    rw [hb1.block w.heap.size (by simp)]; exact heap_alloc_new w _
  clear hb1
  go_loopw [] (fun wr => ∃ (pos : Nat), Hid (pos ≤ nm.length) ∧ wr.heap[w1.heap.size + 1]? = some (.stringIter ⟨nm.toArray⟩ pos) ∧ wr.heap[w.heap.size]? = some (.cells #[.int .u8 o.toNat, .int .u8 a.toNat, .int .u8 b.toNat, .int .u8 c.toNat] 45 (0, 0)) ∧ Below w.heap.size w wr ∧ Hid (∀ l ∈ nm.take pos, nr l = false)) (fun wr => nm.length - wr.iterPos (w1.heap.size + 1))
  case atStart =>
    refine ⟨0, Lib.hid (by omega), ?_, ?_, (hbw1.alloc (by omega) _).alloc (by simp; omega) _, Lib.hid (fun l hl => by simp at hl)⟩
    · have := World.iter_heap (w1.alloc (.cells #[.string ⟨wd.toArray⟩, .string ⟨nm.toArray⟩] 74)) ⟨nm.toArray⟩ 0
      simpa using this
    · exact (Lib.alloc_old _ _ _ (by simp; omega)).trans ((Lib.alloc_old _ _ _ (by omega)).trans hbox)
  case round =>
    obtain ⟨pos, hposH, hit, hbox2, hbw, hdone⟩ := hrel
    have hszr : w1.heap.size + 1 < wr.heap.size := (Array.getElem?_eq_some_iff.1 hit).1
    by_cases hp : pos < nm.length
    · obtain ⟨l, hl⟩ : ∃ l, nm[pos]? = some l := ⟨_, List.getElem?_eq_getElem hp⟩
      have hll := hletH.out l (List.mem_of_getElem? hl)
      have hnx := next_at (w := wr) hit hl (letter_lt hll)
      have hit2 := Lib.iterAt_heap wr (w1.heap.size + 1) ⟨nm.toArray⟩ pos (pos + 1) hit
      have hbw2 := Lib.below_iterAt hbw (k := w1.heap.size + 1) (by omega) ⟨nm.toArray⟩ (pos + 1)
      have hbox3 : (wr.iterAt (w1.heap.size + 1) ⟨nm.toArray⟩ (pos + 1)).heap[w.heap.size]? = some (.cells #[.int .u8 o.toNat, .int .u8 a.toNat, .int .u8 b.toNat, .int .u8 c.toNat] 45 (0, 0)) := by
        rw [Lib.iterAt_other _ _ _ _ _ (by omega)]; exact hbox2
      have hc3 : ∀ i, (wr.iterAt (w1.heap.size + 1) ⟨nm.toArray⟩ (pos + 1)).cell? ⟨w.heap.size, i, none⟩ = #[Value.int .u8 o.toNat, .int .u8 a.toNat, .int .u8 b.toNat, .int .u8 c.toNat][i]? := fun i => cell_of_row _ _ i _ 45 (0, 0) hbox3
      have hR2 := Lib.hid (hRH.out l hll)
      have k0 := hc3 0
      have k1 := hc3 1
      have k2 := hc3 2
      have k3 := hc3 3
      simp only [List.getElem?_toArray, List.getElem?_cons_zero, List.getElem?_cons_succ] at k0 k1 k2 k3
      have htake : nm.take (pos + 1) = nm.take pos ++ [l] := by rw [List.take_add_one, hl]; rfl
      have hpH := Lib.hid hp
      have hlH := Lib.hid hl
      clear hc3 hbox3 hp hl
      cases hnr : nr l
      · rw [hnr] at hR2
        have hnrH := Lib.hid hnr
        clear hnr
        go_wp2_with (go_at_call 35; refine (hR2.out _).mono ?_; rintro e w2 ⟨rfl, hb2⟩)
        go_roundw
        case rel =>
          refine ⟨pos + 1, Lib.hid hpH.out, ?_, ?_, hbw2.trans (hb2.mono hbw2.size), Lib.hid (fun y hy => ?_)⟩
          · rw [hb2.block _ (by rw [Lib.iterAt_size]; omega)]; exact hit2
          · rw [hb2.block _ (by rw [Lib.iterAt_size]; omega), Lib.iterAt_other _ _ _ _ _ (by omega)]; exact hbox2
          · rw [htake, List.mem_append] at hy
            rcases hy with hy | hy
            · exact hdone.out y hy
            · rw [List.mem_singleton] at hy; rw [hy]; exact hnrH.out
        case measure =>
          have e : w2.heap[w1.heap.size + 1]? = some (.stringIter ⟨nm.toArray⟩ (pos + 1)) := by rw [hb2.block _ (by rw [Lib.iterAt_size]; omega)]; exact hit2
          have := hpH.out
          simp only [World.iterPos, e, hit]
          omega
      · rw [hnr] at hR2
        have hall : (B && nm.all fun l => !nr l) = false := by
          have : (nm.all fun l => !nr l) = false := by
            rw [List.all_eq_false]
            exact ⟨l, List.mem_of_getElem? hlH.out, by simp [hnr]⟩
          rw [this]; simp
        have hallH := Lib.hid hall
        clear hnr hall
        go_wp2_with (go_at_call 35; refine (hR2.out _).mono ?_; rintro e w2 ⟨rfl, hb2⟩)
        go_ret
        exact ⟨by rw [hresH.out, hallH.out]; rfl, hbw2.trans (hb2.mono hbw2.size)⟩
    · have hpe : pos = nm.length := by have := hposH.out; omega
      subst hpe
      have hnx : ∀ ty, (Instr.next (.pointer (some ⟨w1.heap.size + 1, 0, none⟩)) true ty).run Try.prog wr = _ := fun ty => Lib.run_next_end_at wr (w1.heap.size + 1) ⟨nm.toArray⟩ nm.length ty hit (by rw [str_size]; omega)
      have hall : (B && nm.all fun l => !nr l) = B := by
        have : (nm.all fun l => !nr l) = true := by
          rw [List.all_eq_true]
          intro l hl
          rw [hdone.out l (by rw [List.take_length]; exact hl)]; rfl
        rw [this]; simp
      have hallH := Lib.hid hall
      clear hall hp
      go_wp2
      go_ret
      exact ⟨by rw [hresH.out, hallH.out]; rfl, hbw⟩

/-! ### What the library's variables hold -/
theorem below_drew {B : Nat} {a b : World} (h : Below B a b) : Below B a b.drew := ⟨h.os, h.tape, h.output, h.size, h.block⟩
theorem below_drewN {B : Nat} {a b : World} (h : Below B a b) (n : Nat) : Below B a (b.drewN n) := ⟨h.os, h.tape, h.output, h.size, h.block⟩
/-! ### Four bytes -/
theorem four_any (V : Value) (o a b c : UInt8) (r : List UInt8) (w : World) (h : By w V (o :: a :: b :: c :: r)) : Calls Try.prog 23 #[V] w fun e w' => e = .returned (⟨o, a, b, c⟩ : Ins).val ∧ Below w.heap.size w w' := by
  obtain ⟨g, off, cap, rfl, hc1, hc2, hlt, hcell⟩ := h.open_ (by simp)
  have hW := fun (W : World) (hb : Below w.heap.size w W) (k : Nat) (x : UInt8) (hk : (o :: a :: b :: c :: r)[k]? = some x) => (hb.cell (p := ⟨g, off + k, none⟩) hlt).trans (hcell k x hk)
  have hb0 := (Below.refl w.heap.size w).alloc (Nat.le_refl _) (.cells #[.int .u8 0, .int .u8 0, .int .u8 0, .int .u8 0] 45)
  have q0 := hW _ hb0 0 o rfl
  rw [Nat.add_zero] at q0
  have q1 := hW _ hb0 1 a rfl
  have q2 := hW _ hb0 2 b rfl
  have q3 := hW _ hb0 3 c rfl
  rw [Ins.val_eq]
  simp only [List.length_cons] at hc1 ⊢
  generalize r.length = n at *
  clear hW hcell h
  go_enter Try.func23, Try.ntmps23
  go_wp2
  go_region
  all_goals go_wp2
  all_goals exact bodyPost_ret (v := .agg #[.int .u8 o.toNat, .int .u8 a.toNat, .int .u8 b.toNat, .int .u8 c.toNat]) (by simp [results, Try.results23, go_sem]) rfl ⟨rfl, below_drew ((Below.refl _ _).alloc (Nat.le_refl _) _)⟩

/-! ### Bytes as they are -/
theorem Row.new (w : World) (cs : List Value) (e : TypeId) (n : Nat) (hn : cs.length = n) (hm : n ≤ maxLen) : Row (w.alloc (.cells cs.toArray e)) e 1 (.slice (some ⟨w.heap.size, 0, none⟩) n n) n cs :=
  ⟨by omega, .inr ⟨_, n, _, rfl, Blk.new w e _, Nat.le_refl _, hm, by simp [hn], by simp [← hn]⟩⟩
/-- A row, or a slice that is full: what append makes a row of. -/
def RowM (w : World) (e : TypeId) (size : Nat) (v : Value) (n : Nat) (xs : List Value) : Prop :=
  Row w e size v n xs ∨ ∃ g, v = .slice (some ⟨g, 0, none⟩) n n ∧ n ≤ maxLen ∧ xs.length = n * size ∧ g < w.heap.size ∧ ∀ j u, xs[j]? = some u → w.cell? ⟨g, j, none⟩ = some u
theorem RowM.cs {w : World} {e : TypeId} {size n : Nat} {v : Value} {xs : List Value} (h : RowM w e size v n xs) : Cs w v n xs := by
  rcases h with h | ⟨g, rfl, hm, hl, hg, hc⟩
  · exact Cs.of_row h
  · exact ⟨_, _, rfl, Nat.le_refl _, hm, fun k u hk => ⟨g, 0, rfl, hg, by rw [Nat.zero_add]; exact hc k u hk⟩⟩
theorem run_append_m {t e : TypeId} {size bytes : Nat} (E : Elt t e size bytes) (hpos : 0 < size) (w : World) (ty : TypeId) {v x : Value} {n m : Nat} {xs news : List Value} (hr : RowM w e size v n xs) (hx : Cs w x m news) (hl : news.length = m * size) (h1 : ∀ u ∈ news, u.oneCell' = true)
    (hm0 : 0 < m) (h63 : n + m ≤ maxLen) (hbytes : (n + m) * bytes ≤ 140737488355328) :
    ∃ A' c' w', (Builtin.append_ #[t, t] ty #[v, x]).run Try.prog w = .ok (.slice A' (n + m) c') w' ∧ Row w' e size (.slice A' (n + m) c') (n + m) (xs ++ news) ∧ w.grownBy w' v.ownBlock ∧ (∀ k ∈ foot (.slice A' (n + m) c'), k ∈ foot v ∨ w.heap.size ≤ k) := by
  rcases hr with hr | ⟨g, rfl, hm, hxl, hg, hc⟩
  · exact run_append_cs E hpos w ty hr hx hl h1 h63 hbytes
  · obtain ⟨ht, i, z, hi, hz, hz1, hz2, hzs⟩ := E
    subst hz1 hz2
    obtain ⟨b, o, c, rfl, _, _, _, hcell⟩ := hx.open_ (by rw [hl]; exact Nat.mul_pos hm0 hpos)
    have hsmall : n + m ≤ 9223372036854775807 := by simp only [maxLen] at h63; omega
    have hr := run_append_grow (P := Try.prog) w t ty e i z ht hi hz ⟨g, 0, none⟩ n n xs hxl (fun j u hu => by
        have hadd : (⟨g, 0, none⟩ : Addr).add j = ⟨g, j, none⟩ := by unfold Addr.add; split <;> simp_all
        rw [hadd]; exact hc j u hu) ⟨b, o, none⟩ m c news hl (fun j u hu => by
        have hadd : (⟨b, o, none⟩ : Addr).add j = ⟨b, o + j, none⟩ := by unfold Addr.add; split <;> simp_all
        rw [hadd]; exact hcell j u hu) (by omega) (by omega) (growslice_fits (by omega) hbytes)
    have hlen : (xs ++ news).length = (n + m) * i.size := by rw [List.length_append, hxl, hl, Nat.add_mul]
    refine ⟨_, _, _, hr, ⟨hlen, .inr ⟨w.heap.size, _, _, rfl, heap_alloc_new w.drew _, grownCap_ge w (n + m) n e, grownCap_le_maxLen w (n + m) n e h63, ?_, ?_⟩⟩, ⟨rfl, rfl, rfl, by simp, fun k hk _ => Lib.alloc_old w.drew _ k hk⟩, fun k hk => ?_⟩
    · have hge := grownCap_ge w (n + m) n e
      simp only [Array.size_append, List.size_toArray, size_zeroCells, hzs, hxl, hl, ← Nat.add_mul]
      exact Nat.mul_le_mul_right _ (by omega)
    · simp only [Array.toList_append, List.append_assoc]
      rw [← List.append_assoc, ← hlen]
      exact List.take_left
    · simp [foot_some] at hk; right; omega
theorem step_append_m {t e : TypeId} {size bytes : Nat} (E : Elt t e size bytes) (hpos : 0 < size) (w : World) {ops : Array Oper} {o : Oper} {a : Act} {K : Act → World → Prop} {Q : Exit → Act → World → Prop} {R : Prop} (hgd : o.guard = none) (s y : Operand)
    (ho : o.op = .call { callee := .builtin .append, args := #[s, y], argTypes := #[t, t] })
    {v x : Value} {n m k : Nat} {xs news : List Value} (hs : a.eval s = v) (hy : a.eval y = x) (hr : RowM w e size v n xs) (hx : Cs w x m news) (hl : news.length = m * size) (h1 : ∀ u ∈ news, u.oneCell' = true)
    (hm0 : 0 < m) (h63 : n + m ≤ maxLen) (hbytes : (n + m) * bytes ≤ 140737488355328) (hk : k = n + m)
    (h : ∀ A' c' w', Row w' e size (.slice A' k c') k (xs ++ news) → w.grownBy w' v.ownBlock → (∀ j ∈ foot (.slice A' k c'), j ∈ foot v ∨ w.heap.size ≤ j) → K (a.put o.dst (.slice A' k c')) w') :
    if Region.wanted o (yielded ops a.tmps) = true then Oper.wp Try.prog o a w K Q else R := by
  have hw : Region.wanted o (yielded ops a.tmps) = true := by simp [Region.wanted, hgd]
  rw [if_pos hw]
  subst hk
  obtain ⟨A', c', w', h2, h3, h4, h5⟩ := run_append_m E hpos w o.type hr hx hl h1 hm0 h63 hbytes
  unfold Oper.wp execOp
  simp only [ho, resolve, invoke, builtin, Sem.run_bind, Sem.run_pure, Result.andThen_ok, List.map_toArray, List.map_cons, List.map_nil, hs, hy, h2]
  exact h A' c' w' h3 h4 h5

theorem Row.below {w w' : World} {e : TypeId} {size n : Nat} {v : Value} {xs : List Value} (h : Row w e size v n xs) (hb : Below w.heap.size w w') : Row w' e size v n xs := h.same fun k hk => hb.block k (h.lt k hk)
theorem RowM.below {w w' : World} {e : TypeId} {size n : Nat} {v : Value} {xs : List Value} (h : RowM w e size v n xs) (hb : Below w.heap.size w w') : RowM w' e size v n xs := by
  rcases h with h | ⟨g, rfl, hm, hl, hg, hc⟩
  · exact .inl (h.below hb)
  · exact .inr ⟨g, rfl, hm, hl, Nat.lt_of_lt_of_le hg hb.size, fun j u hu => (hb.cell (p := ⟨g, j, none⟩) hg).trans (hc j u hu)⟩
theorem Cs.new (w : World) (cs : List Value) (e : TypeId) (n : Nat) (hn : n ≤ maxLen) : Cs (w.alloc (.cells cs.toArray e)) (.slice (some ⟨w.heap.size, 0, none⟩) n n) n cs :=
  ⟨_, _, rfl, Nat.le_refl _, hn, fun k u hu => ⟨w.heap.size, 0, rfl, by simp, by rw [(Blk.new w e cs.toArray).cell]; simpa using hu⟩⟩
end Go.Proofs
end
section
namespace Go.Proofs
open Go.RowKit
set_option linter.unusedVariables false
set_option linter.unusedSimpArgs false

abbrev Ins.arr (x : Ins) : Array Value := #[.int .u8 x.o.toNat, .int .u8 x.a.toNat, .int .u8 x.b.toNat, .int .u8 x.c.toNat]
def putIns (w : World) (b : Nat) (x : Ins) : World := (((w.setCell ⟨b, 0, none⟩ (.int .u8 x.o.toNat)).setCell ⟨b, 1, none⟩ (.int .u8 x.a.toNat)).setCell ⟨b, 2, none⟩ (.int .u8 x.b.toNat)).setCell ⟨b, 3, none⟩ (.int .u8 x.c.toNat)
theorem putIns_at {w : World} {b : Nat} {y : Ins} (h : Blk w b 45 y.arr) (x : Ins) : Blk (putIns w b x) b 45 x.arr := by
  have := (((h.set_ 0 (.int .u8 x.o.toNat)).set_ 1 (.int .u8 x.a.toNat)).set_ 2 (.int .u8 x.b.toNat)).set_ 3 (.int .u8 x.c.toNat)
  exact this
theorem putIns_other (w : World) (b k : Nat) (x : Ins) (h : k ≠ b) : (putIns w b x).heap[k]? = w.heap[k]? := by
  unfold putIns
  rw [Below.heap_setCell _ _ _ _ h, Below.heap_setCell _ _ _ _ h, Below.heap_setCell _ _ _ _ h, Below.heap_setCell _ _ _ _ h]
theorem putIns_below {B : Nat} {a w : World} (h : Below B a w) {b : Nat} (hb : B ≤ b) (x : Ins) : Below B a (putIns w b x) :=
  (((h.setCell (p := ⟨b, 0, none⟩) hb _).setCell (p := ⟨b, 1, none⟩) hb _).setCell (p := ⟨b, 2, none⟩) hb _).setCell (p := ⟨b, 3, none⟩) hb _
/-! ### Bytes of instructions; what stands at a place -/
def flatI (l : List Ins) : List UInt8 := l.flatMap Ins.bytes
theorem flatI_length (l : List Ins) : (flatI l).length = 4 * l.length := by
  unfold flatI
  induction l with
  | nil => rfl
  | cons x r ih => rw [List.flatMap_cons, List.length_append, ih]; simp [Ins.bytes]; omega
theorem flatI_append (a b : List Ins) : flatI (a ++ b) = flatI a ++ flatI b := by simp [flatI]
theorem flatI_at {l : List Ins} {k : Nat} {x : Ins} (h : l[k]? = some x) : (flatI l)[4 * k]? = some x.o ∧ (flatI l)[4 * k + 1]? = some x.a ∧ (flatI l)[4 * k + 2]? = some x.b ∧ (flatI l)[4 * k + 3]? = some x.c := by
  induction l generalizing k with
  | nil => simp at h
  | cons y r ih =>
    cases k with
    | zero =>
      simp at h; subst h
      simp [flatI, Ins.bytes]
    | succ k =>
      have := ih (k := k) (by simpa using h)
      have e : ∀ j, (flatI (y :: r))[4 * (k + 1) + j]? = (flatI r)[4 * k + j]? := fun j => by
        show (y.bytes ++ flatI r)[4 * (k + 1) + j]? = _
        rw [List.getElem?_append_right (by simp [Ins.bytes]; omega)]
        congr 1; simp [Ins.bytes]; omega
      have e0 := e 0
      simp only [Nat.add_zero] at e0
      rw [e0, e, e, e]; exact this
theorem Row.empty (w : World) (g cap : Nat) (cs : Array Value) (e : TypeId) (h : Blk w g e cs) (hc : cap ≤ maxLen) (hs : cs.size = cap) : Row w e 1 (.slice (some ⟨g, 0, none⟩) 0 cap) 0 [] :=
  ⟨rfl, .inr ⟨g, cap, cs, rfl, h, by omega, hc, by omega, by simp⟩⟩
theorem len_any (V : Value) (l : List UInt8) (hl : l.length ≤ 1000000) (w : World) (h : By w V l) : Calls Try.prog 15 #[V] w fun e w' => e = .returned (.int .i64 (l.length / 4 : Nat)) ∧ w' = w := by
  obtain ⟨A, c, rfl, _⟩ := h.val
  generalize l.length = n at *
  have hd : ((n : Int).tdiv 4) = ((n / 4 : Nat) : Int) := by rw [Int.tdiv_eq_ediv_of_nonneg (by omega)]; omega
  clear h
  go_enter Try.func15, Try.ntmps15
  go_wp2
  go_ret
  exact ⟨by first | rfl | (congr 2) , rfl⟩
set_option maxHeartbeats 2000000 in
set_option maxRecDepth 100000 in
theorem bytes_any (V : Value) (l : List Ins) (hl : l.length ≤ 100000) (w : World) (h : Cs w V l.length (bys (flatI l))) :
    Calls Try.prog 10 #[V] w fun e w' => ∃ R, e = .returned R ∧ Row w' 5 1 R (4 * l.length) (bys (flatI l)) ∧ (∀ k ∈ foot R, w.heap.size ≤ k) ∧ Below w.heap.size w w' := by
  obtain ⟨A, c, rfl, hc1, hc2, hcell⟩ := h
  obtain ⟨n, hn⟩ : ∃ n, n = l.length := ⟨_, rfl⟩
  rw [← hn] at hc1 hl ⊢
  have hnH := Lib.hid hn
  have hcellH := Lib.hid hcell
  clear hcell hn
  obtain ⟨_, i0, z0, hi0, hz0, hz1, hz2, _⟩ := elt_bytes
  obtain ⟨w1, hmk, hown, hgrow⟩ := run_makeSlice_owned (P := Try.prog) w w.heap.size 22 5 i0 z0 1 Try.underlying22 hi0 hz0 hz1 .i64 .i64 (4 * n) (by omega) (by rw [hz2]; omega) (by unfold maxLen; omega) (Nat.le_refl _)
  rw [show ((4 * n : Nat) : Int) = 4 * (n : Int) by omega] at hmk
  have hb1 : Below w.heap.size w w1 := (Below.refl _ w).grown hgrow (Nat.le_refl _) (fun k e => by cases e)
  have hS := Lib.hid (⟨Row.of_own hown, hb1⟩ : _ ∧ _)
  clear hown hgrow hb1 hi0 hz0 hz1 hz2
  go_enter Try.func10, Try.ntmps10
  go_wp2
  go_loopw [3, 12] (fun v i wr => ∃ (k : Nat) (B : Option Addr) (cc : Nat), v = .slice B (4 * k) cc ∧ i = .int .i64 k ∧ k ≤ n ∧ Hid (Row wr 5 1 (.slice B (4 * k) cc) (4 * k) (bys (flatI (l.take k))) ∧ (∀ j ∈ foot (.slice B (4 * k) cc), w.heap.size ≤ j) ∧ Below w.heap.size w wr)) (fun _ i _ => n - (intOf i).toNat)
  case atStart =>
    exact ⟨0, _, _, rfl, rfl, by omega, Lib.hid ⟨hS.out.1, fun j hj => by simp [foot_some] at hj; omega, hS.out.2⟩⟩
  case round =>
    obtain ⟨k, B, cc, rfl, rfl, hk, hI⟩ := hrel
    by_cases hkn : k < n
    · obtain ⟨x, hx⟩ : ∃ x, l[k]? = some x := ⟨_, List.getElem?_eq_getElem (by have := hnH.out; omega)⟩
      obtain ⟨f0, f1, f2, f3⟩ := flatI_at hx
      obtain ⟨g, o, rfl, hlt, q0⟩ := hcellH.out _ _ (bys_at f0)
      have hq : ∀ j u, (bys (flatI l))[4 * k + j]? = some u → wr.cell? ⟨g, o + (4 * k + j), none⟩ = some u := fun j u hu => by
        obtain ⟨g', o', he, _, q⟩ := hcellH.out _ _ hu
        simp only [Option.some.injEq, Addr.mk.injEq, and_true] at he
        obtain ⟨rfl, rfl⟩ := he
        exact (hI.out.2.2.cell (p := ⟨g, o + (4 * k + j), none⟩) hlt).trans q
      have e : ∀ j, o + (4 * k + j) = o + k * 4 + j := fun j => by omega
      have p0 := hq 0 _ (bys_at f0)
      have p1 := hq 1 _ (bys_at f1)
      have p2 := hq 2 _ (bys_at f2)
      have p3 := hq 3 _ (bys_at f3)
      rw [e] at p0 p1 p2 p3
      rw [Nat.add_zero] at p0
      have hxH := Lib.hid hx
      have hbd := ((Below.refl wr.heap.size wr).alloc (Nat.le_refl _) (.cells x.arr 45)).alloc (by simp) (.cells #[.int .u8 x.o.toNat, .int .u8 x.a.toNat, .int .u8 x.b.toNat, .int .u8 x.c.toNat] 5)
      have hR2 := Lib.hid (hI.out.1.below hbd)
      have hC2 := Lib.hid (show Cs ((wr.alloc (.cells x.arr 45)).alloc (.cells #[.int .u8 x.o.toNat, .int .u8 x.a.toNat, .int .u8 x.b.toNat, .int .u8 x.c.toNat] 5)) (.slice (some ⟨wr.heap.size + 1, 0, none⟩) 4 4) 4 (bys x.bytes) by
        have := Cs.new (wr.alloc (.cells x.arr 45)) (bys x.bytes) 5 4 (by unfold maxLen; omega)
        simpa [Lib.byteCells, Ins.bytes] using this)
      have hbdH := Lib.hid hbd
      clear hq f0 f1 f2 f3 hx q0 e hbd
      go_wp2_with (at_builtin; refine wpList_append_cs elt_bytes (by decide) _ rfl _ _ (by rfl) (by rfl) (by rfl) hR2.out hC2.out rfl (bys_one _) (by unfold maxLen; omega) (by omega) (k := 4 * (k + 1)) (by omega) ?_; intro A' c' w' hr hg hf)
      go_roundw
      case rel =>
        have hxx := hxH.out
        refine ⟨k + 1, _, _, rfl, by simp, by omega, Lib.hid ⟨?_, fun j hj => ?_, ?_⟩⟩
        · have e : bys (flatI (l.take (k + 1))) = bys (flatI (l.take k)) ++ bys x.bytes := by
            rw [List.take_add_one, hxx, Option.toList_some, flatI_append, ← bys_append]; simp [flatI]
          rw [e]; exact hr
        · rcases hf j hj with h1 | h1
          · exact hI.out.2.1 j h1
          · exact Nat.le_trans (Nat.le_trans hI.out.2.2.size hbdH.out.size) h1
        · have hb1 := hI.out.2.2.trans (hbdH.out.mono hI.out.2.2.size)
          exact hb1.grown hg (by have := hb1.size; omega) (fun q hq => hI.out.2.1 q (row_mem hq))
      case measure => simp [intOf]; omega
    · obtain rfl : k = n := by omega
      have e : l.take k = l := by rw [hnH.out, List.take_length]
      go_wp2
      go_ret
      exact ⟨_, rfl, by have := hI.out.1; rw [e] at this; exact this, hI.out.2.1, hI.out.2.2⟩
end Go.Proofs
end
section
namespace Go.Proofs
open Go.RowKit
set_option linter.unusedVariables false
set_option linter.unusedSimpArgs false

theorem Blk.below {A B : World} {b : Nat} {t : TypeId} {cs : Array Value} (h : Blk A b t cs) (hb : Below A.heap.size A B) : Blk B b t cs := h.same (hb.block b h.lt)
def insAt (l : List UInt8) (k : Nat) : Ins := ⟨l.getD (4 * k) 0, l.getD (4 * k + 1) 0, l.getD (4 * k + 2) 0, l.getD (4 * k + 3) 0⟩
/-- What stands at a place of a program, or by which error none does. -/
def decodeP (l : List UInt8) (pc : Int) : Ins × Int :=
  if 0 ≤ pc ∧ 4 * pc = l.length then (Ins.zero, 4)
  else if pc < 0 ∨ (l.length : Int) < 4 * pc + 4 then (Ins.zero, 7)
  else if (insAt l pc.toNat).is then (insAt l pc.toNat, 0) else (Ins.zero, 7)
theorem drop_at {l : List UInt8} {k : Nat} (h : 4 * k + 4 ≤ l.length) : l.drop (4 * k) = (insAt l k).o :: (insAt l k).a :: (insAt l k).b :: (insAt l k).c :: l.drop (4 * k + 4) := by
  have g : ∀ (j : Nat) (hj : j < 4), l.getD (4 * k + j) 0 = l[4 * k + j]'(by omega) := fun j hj => by simp [List.getD, List.getElem?_eq_getElem (show 4 * k + j < l.length by omega)]
  have g0 := g 0 (by omega)
  have g1 := g 1 (by omega)
  have g2 := g 2 (by omega)
  have g3 := g 3 (by omega)
  simp only [insAt]
  simp only [Nat.add_zero] at g0
  rw [g0, g1, g2, g3]
  rw [List.drop_eq_getElem_cons (show 4 * k < l.length by omega), List.drop_eq_getElem_cons (show 4 * k + 1 < l.length by omega), List.drop_eq_getElem_cons (show 4 * k + 1 + 1 < l.length by omega), List.drop_eq_getElem_cons (show 4 * k + 1 + 1 + 1 < l.length by omega)]
set_option maxHeartbeats 2000000 in
set_option maxRecDepth 100000 in
theorem decode_any (V : Value) (l : List UInt8) (hl : l.length ≤ 100000) (pc : Int) (h0 : -9223372036854775808 ≤ pc) (h1 : pc ≤ 9223372036854775807) (w : World) (h : By w V l) :
    Calls Try.prog 14 #[V, .int .i64 pc] w fun e w' => e = .returned (.tuple #[(decodeP l pc).1.val, .int .i64 (decodeP l pc).2]) ∧ Below w.heap.size w w' := by
  have hL := fun W (hb : Below w.heap.size w W) => len_any V l (by omega) W (h.below hb)
  obtain ⟨A, c, rfl, hc1, hc2⟩ := h.val
  have hz : Ins.zero.val = .agg #[.int .u8 0, .int .u8 0, .int .u8 0, .int .u8 0] := rfl
  have hb0 := (Below.refl w.heap.size w).alloc (Nat.le_refl _) (.cells #[.int .u8 0, .int .u8 0, .int .u8 0, .int .u8 0] 45)
  have hL1 := hL _ hb0
  obtain ⟨n, hn⟩ : ∃ n, n = l.length := ⟨_, rfl⟩
  by_cases hA : 0 ≤ pc ∧ 4 * pc = l.length
  · have hd : decodeP l pc = (Ins.zero, 4) := if_pos hA
    rw [hd]
    simp only [hz]
    rw [← hn] at hA hL1 hc1 hl ⊢
    obtain ⟨q, hq⟩ : ∃ q, q = n / 4 := ⟨_, rfl⟩
    rw [← hq] at hL1
    have e1 : pc = (q : Int) := by omega
    have e2 : ((n : Int).tmod 4) = 0 := by rw [Int.tmod_eq_emod_of_nonneg (by omega)]; omega
    subst e1
    clear h hL hd hn hA hq
    go_enter Try.func14, Try.ntmps14
    go_wp2_with (go_at_call 15; refine hL1.mono ?_; rintro e w' ⟨rfl, rfl⟩)
    exact bodyPost_ret (v := .tuple #[.agg #[.int .u8 0, .int .u8 0, .int .u8 0, .int .u8 0], .int .i64 4]) (by simp [results, Try.results14, go_sem]) rfl ⟨rfl, hb0⟩
  · by_cases hB : pc < 0 ∨ (l.length : Int) < 4 * pc + 4
    · have hd : decodeP l pc = (Ins.zero, 7) := by unfold decodeP; rw [if_neg hA, if_pos hB]
      rw [hd]
      simp only [hz]
      rw [← hn] at hA hB hL1 hc1 hl ⊢
      obtain ⟨q, hq⟩ : ∃ q, q = n / 4 := ⟨_, rfl⟩
      rw [← hq] at hL1
      rcases Int.lt_or_le pc 0 with hp | hp
      · have e1 : (pc == (q : Int)) = false := by simp; omega
        clear h hL hd hn hA hB hq
        go_enter Try.func14, Try.ntmps14
        go_wp2_with (go_at_call 15; refine hL1.mono ?_; rintro e w' ⟨rfl, rfl⟩)
        exact bodyPost_ret (v := .tuple #[.agg #[.int .u8 0, .int .u8 0, .int .u8 0, .int .u8 0], .int .i64 7]) (by simp [results, Try.results14, go_sem]) rfl ⟨rfl, hb0⟩
      · by_cases hpq : pc = (q : Int)
        · subst hpq
          obtain ⟨r, hr⟩ : ∃ r : Int, r = (n : Int).tmod 4 := ⟨_, rfl⟩
          have e2 : r ≠ 0 := by rw [hr, Int.tmod_eq_emod_of_nonneg (by omega)]; omega
          have e3 : (r == 0) = false := by simpa using e2
          have hr' := hr.symm
          clear h hL hd hn hA hB hq hr
          go_enter Try.func14, Try.ntmps14
          go_wp2_with (go_at_call 15; refine hL1.mono ?_; rintro e w' ⟨rfl, rfl⟩)
          exact bodyPost_ret (v := .tuple #[.agg #[.int .u8 0, .int .u8 0, .int .u8 0, .int .u8 0], .int .i64 7]) (by simp [results, Try.results14, go_sem]) rfl ⟨rfl, hb0⟩
        · have e1 : (pc == (q : Int)) = false := by simpa using hpq
          have e2 : (q : Int) ≤ pc := by omega
          have e3 : ¬ pc < 0 := by omega
          clear h hL hd hn hA hB hq
          go_enter Try.func14, Try.ntmps14
          go_wp2_with (go_at_call 15; refine hL1.mono ?_; rintro e w' ⟨rfl, rfl⟩)
          exact bodyPost_ret (v := .tuple #[.agg #[.int .u8 0, .int .u8 0, .int .u8 0, .int .u8 0], .int .i64 7]) (by simp [results, Try.results14, go_sem]) rfl ⟨rfl, hb0⟩
    · obtain ⟨k, rfl⟩ : ∃ k : Nat, pc = (k : Int) := ⟨pc.toNat, by omega⟩
      have hk4 : 4 * k + 4 ≤ l.length := by omega
      have hd : decodeP l k = if (insAt l k).is then (insAt l k, 0) else (Ins.zero, 7) := by unfold decodeP; rw [if_neg hA, if_neg hB]; rfl
      obtain ⟨g, off, c', e, _, _, hlt, _⟩ := h.open_ (by omega)
      injection e with e' e2 e3
      subst e' e3
      have hcut := h.cut (i := 4 * k) (m := l.length - 4 * k) (c' := c - 4 * k) (by omega) (by omega) (by omega)
      rw [List.take_of_length_le (by rw [List.length_drop]; omega), drop_at hk4] at hcut
      have hX := four_any _ _ _ _ _ _ _ (hcut.below hb0)
      obtain ⟨x, hx⟩ : ∃ x, x = insAt l k := ⟨_, rfl⟩
      rw [← hx] at hd
      have hX : Calls Try.prog 23 #[.slice (some ⟨g, off + 4 * k, none⟩) (l.length - 4 * k) (c - 4 * k)] (w.alloc (.cells #[.int .u8 0, .int .u8 0, .int .u8 0, .int .u8 0] 45)) fun e w' => e = .returned (.agg x.arr) ∧ Below (w.alloc (.cells #[.int .u8 0, .int .u8 0, .int .u8 0, .int .u8 0] 45)).heap.size (w.alloc (.cells #[.int .u8 0, .int .u8 0, .int .u8 0, .int .u8 0] 45)) w' := by rw [hx]; exact hX
      rw [hd]
      rw [← hn] at hL1 hc1 hl hX hk4 ⊢
      obtain ⟨q, hq⟩ : ∃ q, q = n / 4 := ⟨_, rfl⟩
      rw [← hq] at hL1
      have e1 : ((k : Int) == (q : Int)) = false := by simp; omega
      have e2 : (k : Int) < (q : Int) := by omega
      have e4 : 4 * (k : Int) ≤ (n : Int) := by omega
      have hk6 : k ≤ 100000 := by omega
      obtain ⟨D, hD⟩ : ∃ D : Ins × Int, D = if x.is = true then (x, 0) else (Ins.zero, 7) := ⟨_, rfl⟩
      rw [← hD]
      obtain ⟨dy, de⟩ := D
      have hDH := Lib.hid hD
      clear h hL hd hn hA hB hq hcut hx hD
      go_enter Try.func14, Try.ntmps14
      go_wp2_with (first
        | (go_at_call 15; refine hL1.mono ?_; rintro e w' ⟨rfl, rfl⟩)
        | (go_at_call 23; refine hX.mono ?_; rintro e w1 ⟨rfl, hb1⟩))
      have hb1' := hb0.trans (hb1.mono (by simp))
      have hres : Blk w1 w.heap.size 45 #[.int .u8 0, .int .u8 0, .int .u8 0, .int .u8 0] := (Blk.new w 45 #[.int .u8 0, .int .u8 0, .int .u8 0, .int .u8 0]).below hb1
      obtain ⟨W1, hW1⟩ : ∃ W1, W1 = w1.alloc (.cells x.arr 45) := ⟨_, rfl⟩
      have hblk : Blk W1 w1.heap.size 45 x.arr := by rw [hW1]; exact Blk.new w1 45 _
      have hb2 : Below w.heap.size w W1 := by rw [hW1]; exact hb1'.alloc hb1'.size _
      obtain ⟨X, hX2⟩ : ∃ X, X = w1.heap.size := ⟨_, rfl⟩
      rw [← hW1, ← hX2]
      rw [← hX2] at hblk
      have hXs := hblk.lt
      have x0 := hblk.cell 0
      have x1 := hblk.cell 1
      have x2 := hblk.cell 2
      have x3 := hblk.cell 3
      simp only [List.getElem?_toArray, List.getElem?_cons_zero, List.getElem?_cons_succ] at x0 x1 x2 x3
      have hresH := Lib.hid ((hres.alloc (.cells x.arr 45)).drew)
      rw [← hW1] at hresH
      have hF0 := forms_any W1.drew
      replace hb2 := below_drew hb2
      replace hblk := hblk.drew
      have hI := fun m W hF => isOne_any x m W hF
      have hI : ∀ m W, FormsAt W m → Calls Try.prog 24 #[.map (some m), .agg x.arr] W fun e w' => e = .returned (.bool (isOneP x)) ∧ Below W.heap.size W w' := hI
      rw [isOne_is] at hI
      have hblkH := Lib.hid hblk
      clear hW1 hX2 hblk hb1' hb1 hX hres
      cases his : x.is
      · rw [his] at hI
        have hD : dy = Ins.zero ∧ de = 7 := by
          have q := hDH.out
          rw [if_neg (by rw [his]; decide)] at q
          exact Prod.mk.inj q
        go_region_with (first
          | (go_at_call 25; refine hF0.mono ?_; rintro e w2 ⟨rfl, hF, hb3⟩
             have hb4 := hb2.trans (hb3.mono hb2.size)
             have y := hblkH.out.below hb3
             have y0 := y.cell 0
             have y1 := y.cell 1
             have y2 := y.cell 2
             have y3 := y.cell 3
             simp only [List.getElem?_toArray, List.getElem?_cons_zero, List.getElem?_cons_succ] at y0 y1 y2 y3
             have yH := Lib.hid y
             clear y)
          | (go_at_call 24; refine (hI _ _ hF).mono ?_; rintro e w3 ⟨rfl, hb5⟩; have hb6 := hb4.trans (hb5.mono hb4.size)
             have z := yH.out.below hb5
             have z0 := z.cell 0
             have z1 := z.cell 1
             have z2 := z.cell 2
             have z3 := z.cell 3
             have r := hresH.out.below (hb3.trans (hb5.mono hb3.size))
             have r0 := r.cell 0
             have r1 := r.cell 1
             have r2 := r.cell 2
             have r3 := r.cell 3
             have f0 := r.frozen 0
             have f1 := r.frozen 1
             have f2 := r.frozen 2
             have f3 := r.frozen 3
             have rH := Lib.hid r
             simp only [List.getElem?_toArray, List.getElem?_cons_zero, List.getElem?_cons_succ] at z0 z1 z2 z3 r0 r1 r2 r3
             clear z r))
        all_goals go_wp2
        all_goals
          have q : ∀ i, ((((w3.setCell ⟨w.heap.size, 0, none⟩ (.int .u8 0)).setCell ⟨w.heap.size, 1, none⟩ (.int .u8 0)).setCell ⟨w.heap.size, 2, none⟩ (.int .u8 0)).setCell ⟨w.heap.size, 3, none⟩ (.int .u8 0)).cell? ⟨w.heap.size, i, none⟩ = (#[Value.int .u8 0, .int .u8 0, .int .u8 0, .int .u8 0] : Array Value)[i]? := fun i => (putIns_at (y := Ins.zero) rH.out Ins.zero).cell i
          have q0 := q 0
          have q1 := q 1
          have q2 := q 2
          have q3 := q 3
          simp only [List.getElem?_toArray, List.getElem?_cons_zero, List.getElem?_cons_succ] at q0 q1 q2 q3
          have hbE := putIns_below hb6 (Nat.le_refl _) Ins.zero
          obtain ⟨rfl, rfl⟩ := hD
          refine bodyPost_ret (v := .tuple #[Ins.zero.val, .int .i64 7]) ?_ rfl ⟨rfl, hbE⟩
          simp [results, Try.results14, go_sem, q0, q1, q2, q3, hz]
      · rw [his] at hI
        have hD : dy = x ∧ de = 0 := by
          have q := hDH.out
          rw [if_pos his] at q
          exact Prod.mk.inj q
        go_region_with (first
          | (go_at_call 25; refine hF0.mono ?_; rintro e w2 ⟨rfl, hF, hb3⟩
             have hb4 := hb2.trans (hb3.mono hb2.size)
             have y := hblkH.out.below hb3
             have y0 := y.cell 0
             have y1 := y.cell 1
             have y2 := y.cell 2
             have y3 := y.cell 3
             simp only [List.getElem?_toArray, List.getElem?_cons_zero, List.getElem?_cons_succ] at y0 y1 y2 y3
             have yH := Lib.hid y
             clear y)
          | (go_at_call 24; refine (hI _ _ hF).mono ?_; rintro e w3 ⟨rfl, hb5⟩; have hb6 := hb4.trans (hb5.mono hb4.size)
             have z := yH.out.below hb5
             have z0 := z.cell 0
             have z1 := z.cell 1
             have z2 := z.cell 2
             have z3 := z.cell 3
             have r := hresH.out.below (hb3.trans (hb5.mono hb3.size))
             have r0 := r.cell 0
             have r1 := r.cell 1
             have r2 := r.cell 2
             have r3 := r.cell 3
             have f0 := r.frozen 0
             have f1 := r.frozen 1
             have f2 := r.frozen 2
             have f3 := r.frozen 3
             have rH := Lib.hid r
             simp only [List.getElem?_toArray, List.getElem?_cons_zero, List.getElem?_cons_succ] at z0 z1 z2 z3 r0 r1 r2 r3
             clear z r))
        all_goals go_wp2
        all_goals
          have q : ∀ i, ((((w3.setCell ⟨w.heap.size, 0, none⟩ (.int .u8 x.o.toNat)).setCell ⟨w.heap.size, 1, none⟩ (.int .u8 x.a.toNat)).setCell ⟨w.heap.size, 2, none⟩ (.int .u8 x.b.toNat)).setCell ⟨w.heap.size, 3, none⟩ (.int .u8 x.c.toNat)).cell? ⟨w.heap.size, i, none⟩ = x.arr[i]? := fun i => (putIns_at (y := Ins.zero) rH.out x).cell i
          have q0 := q 0
          have q1 := q 1
          have q2 := q 2
          have q3 := q 3
          simp only [List.getElem?_toArray, List.getElem?_cons_zero, List.getElem?_cons_succ] at q0 q1 q2 q3
          have hbE := putIns_below hb6 (Nat.le_refl _) x
          obtain ⟨rfl, rfl⟩ := hD
          refine bodyPost_ret (v := .tuple #[dy.val, .int .i64 0]) ?_ rfl ⟨rfl, hbE⟩
          simp [results, Try.results14, go_sem, q0, q1, q2, q3, Ins.val]
end Go.Proofs
end
