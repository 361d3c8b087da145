import Derived.Test.YtelkndhifkmpiaaHeP
import Derived.Test.YtelkndhifkmpiaaShelf
namespace Go.Proofs
open Go.RowKit Go.Shelf Go.Sort
set_option linter.unusedVariables false

theorem cf_ltOf (x y : Tm) : Go.Proofs.ltOf Tm.cf x y = decide (Tm.lt x y) := by
  unfold Go.Proofs.ltOf
  rw [decide_eq_decide]
  exact Tm.cf_lt x y
theorem cf_swo : SWO (Go.Proofs.ltOf Tm.cf) where
  irrefl x := by rw [cf_ltOf]; simpa using Tm.irrefl x
  trans x y z h1 h2 := by rw [cf_ltOf] at *; simp at *; exact Tm.trans h1 h2
  ntrans x y z h1 h2 := by rw [cf_ltOf] at *; simp at *; exact Tm.ntrans h1 h2
theorem cmpLays (blk off size : Nat) (w : World) : CmpLays Try.prog 29 #[] tmCells 3 Tm.cf blk off size w := fun m os dk _ x y =>
  (cmp_any x y _).mono fun e w' ⟨h1, o1, o2, o3, h2⟩ => ⟨h1, 1, #[o1, o2, o3], by rw [h2, alloc_eq_grow, alloc_eq_grow, alloc_eq_grow, grow_grow, grow_grow]; rfl⟩
theorem tms_flatK (ts : List Tm) : (flatK tmCells 3 ts.toArray).toList = tms ts := by
  refine List.ext_getElem? fun t => ?_
  by_cases ht : t < ts.length * 3
  · have hk : t / 3 < ts.length := by omega
    have h1 : (flatK tmCells 3 ts.toArray)[t]! = (tmCells ts.toArray[t / 3]!)[t % 3]! := get_flatK _ _ _ _ (by simpa using ht)
    have hl : t < (flatK tmCells 3 ts.toArray).size := by simpa using ht
    rw [Array.getElem?_toList, Array.getElem?_eq_getElem hl]
    rw [getElem!_pos (flatK tmCells 3 ts.toArray) t hl] at h1
    rw [h1]
    have hx := at_eq hk
    have hm : t % 3 < 3 := Nat.mod_lt _ (by omega)
    have e1 : ts.toArray[t / 3]! = at_ ts (t / 3) := by
      rw [getElem!_pos ts.toArray (t / 3) (by simpa using hk)]
      have := List.getElem?_eq_getElem hk
      rw [hx] at this
      simpa using (Option.some.inj this).symm
    rw [e1]
    have e2 : (tmCells (at_ ts (t / 3)))[t % 3]? = some (tmCells (at_ ts (t / 3)))[t % 3]! := by
      rw [getElem!_pos (tmCells (at_ ts (t / 3))) (t % 3) (by rw [tmCells_len]; exact hm), List.getElem?_eq_getElem (by rw [tmCells_len]; exact hm)]
    have := flat_at tmCells_len hx e2
    rw [show t / 3 * 3 + t % 3 = t by omega] at this
    exact this.symm
  · rw [List.getElem?_eq_none (by simpa using (by omega : ts.length * 3 ≤ t)), List.getElem?_eq_none (by rw [tms_len]; omega)]
theorem heap_sortedK {w : World} {g n : Nat} {os : Array Obj} {cur : Array Value} {e : TypeId} (d : Array Tm) (hb : w.heap[g]? = some (.cells cur e (0, 0))) :
    (sortWorldK tmCells 3 w g 0 n d os).heap[g]? = some (.cells (putCells id 0 (flatK tmCells 3 d) cur) e (0, 0)) := by
  have hlt := (Array.getElem?_eq_some_iff.1 hb).1
  unfold sortWorldK putRowK
  rw [heap_grow_old _ _ (by simpa using hlt)]
  simp [putRow, mapBlock, Sort.ahead, Array.getElem?_modify, hb, onCells]
theorem chg_sortedK {w : World} {g n : Nat} {os : Array Obj} (d : Array Tm) : Chg [g] w (sortWorldK tmCells 3 w g 0 n d os) := by
  unfold sortWorldK putRowK
  refine ⟨rfl, rfl, rfl, by simp, fun k hk hne => ?_⟩
  rw [heap_grow_old _ _ (by simpa using hk)]
  have : g ≠ k := fun e => hne (by simp [e])
  simp [putRow, mapBlock, Sort.ahead, Array.getElem?_modify, this]
theorem take_putK (cur F : Array Value) (h : F.size ≤ cur.size) : (putCells id 0 F cur).toList.take F.size = F.toList := by
  apply List.ext_getElem?
  intro j
  by_cases hj : j < F.size
  · rw [List.getElem?_take_of_lt hj, Array.getElem?_toList]
    simp [putCells, hj, show j < cur.size by omega]
  · rw [List.getElem?_take_eq_none (by omega), List.getElem?_eq_none (by simp; omega)]
theorem sort_any {w : World} {V : Value} {ts : List Tm} (h : Row w 61 3 V ts.length (tms ts)) (hn : ts.length ≤ 100000) :
    Calls Try.prog 38 #[V, .func (.func 29) #[] #[]] w fun e w' => e = .returned (.tuple #[]) ∧ ∃ ts', ts'.Perm ts ∧ ts'.Pairwise (fun x y => ¬ Tm.lt y x) ∧ Row w' 61 3 V ts'.length (tms ts') ∧ Chg (foot V) w w' := by
  rcases h.2 with ⟨rfl, h0⟩ | ⟨g, cap, cur, rfl, hg, hc, hm, hs, ht⟩
  · have hcon := AnyF.slices_SortFunc_none Try.sortTm none 0 (.func (.func 29) #[] #[]) w
    change Calls Try.prog 38 _ _ _ at hcon
    obtain rfl : ts = [] := List.eq_nil_of_length_eq_zero h0
    refine hcon.mono ?_
    rintro e w' ⟨h1, rfl⟩
    exact ⟨h1, [], List.Perm.refl _, List.Pairwise.nil, h, Chg.refl _ _⟩
  · have eg : ∀ args w, (callFunc 29 args).run Try.prog w = .ok (.enter 29 args) w := enters_of Try.func29 (by kernel_rfl) rfl
    have hH : HoldsK tmCells 3 w g 0 ts.toArray := by
      intro j hj
      have hl : j < ts.length * 3 := by simpa using hj
      rw [hg.cell, Nat.zero_add]
      refine ⟨?_, hg.frozen _⟩
      have h1 := tms_flatK ts
      have h2 : (tms ts)[j]? = some (flatK tmCells 3 ts.toArray)[j]! := by
        rw [← h1, Array.getElem?_toList, Array.getElem?_eq_getElem hj, getElem!_pos (flatK tmCells 3 ts.toArray) j hj]
      rw [← ht, List.getElem?_take_of_lt (by simpa using hl)] at h2
      simpa using h2
    have hcon := AnyQ.slices_SortFunc Try.sortTm 3 Try.isAgg61 Try.sizeOf61 tmCells tmCells_len (fun x v hv => by simp [tmCells] at hv; rcases hv with rfl | rfl | rfl <;> rfl) Tm.cf cf_swo 29 #[] g 0 cap ts.toArray w eg (cmpLays g 0 _ w) hH hg.lt (by simp; omega)
    change Calls Try.prog 38 _ _ _ at hcon
    rw [List.size_toArray] at hcon
    refine hcon.mono ?_
    rintro e w' ⟨h1, d', n, os, hp, hsd, rfl⟩
    obtain ⟨q1, q2, q3⟩ := hp
    rw [List.size_toArray] at q1
    have e1 : d'.extract 0 ts.length = d' := by
      rw [show ts.length = d'.size by simpa using q1.symm, Array.extract_size]
    have e2 : ts.toArray.extract 0 ts.length = ts.toArray := by
      simp
    rw [e1, e2] at q3
    have hl : d'.toList.length = ts.length := by rw [Array.length_toList]; simpa using q1
    have hF : (flatK tmCells 3 d').toList = tms d'.toList := by simpa using tms_flatK d'.toList
    have hFs : (flatK tmCells 3 d').size = ts.length * 3 := by rw [size_flatK, show d'.size = ts.length by simpa using q1]
    have hle : ts.length * 3 ≤ cur.size := Nat.le_trans (Nat.mul_le_mul_right _ hc) hs
    refine ⟨h1, d'.toList, by simpa using q3, ?_, ⟨by rw [tms_len], .inr ⟨g, cap, _, by rw [hl], heap_sortedK d' hg, by rw [hl]; exact hc, hm, by simpa [putCells] using hs, ?_⟩⟩, chg_sortedK d'⟩
    · rw [List.pairwise_iff_getElem]
      intro i j hi hj hij
      have := hsd i j (Nat.zero_le _) hij (by simpa [q1] using hj)
      rw [cf_ltOf, decide_eq_false_iff_not] at this
      rw [getElem!_pos d' j (by simpa using hj), getElem!_pos d' i (by simpa using hi)] at this
      simpa using this
    · rw [show d'.toList.length * 3 = (flatK tmCells 3 d').size by rw [hl, hFs], take_putK _ _ (by rw [hFs]; exact hle), hF]
theorem sorted_one {ts K : List Tm} (hp : ts.Perm K) (h : ts.Pairwise (fun x y => ¬ Tm.lt y x)) (hK : K.Pairwise Tm.lt) : ts = K := by
  have hK' : K.Pairwise (fun x y => ¬ Tm.lt y x) := hK.imp (fun h => Tm.asymm h)
  refine List.Perm.eq_of_pairwise (fun x y hx hy h1 h2 => ?_) h hK' hp
  have hxK := hp.mem_iff.1 hx
  obtain ⟨i, hi, rfl⟩ := List.mem_iff_getElem.1 hxK
  obtain ⟨j, hj, rfl⟩ := List.mem_iff_getElem.1 hy
  rw [List.pairwise_iff_getElem] at hK
  rcases Nat.lt_trichotomy i j with h3 | h3 | h3
  · exact absurd (hK i j hi hj h3) h2
  · subst h3; rfl
  · exact absurd (hK j i hj hi h3) h1
end Go.Proofs
