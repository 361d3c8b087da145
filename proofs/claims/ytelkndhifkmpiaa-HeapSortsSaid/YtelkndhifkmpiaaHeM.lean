import Derived.Test.YtelkndhifkmpiaaHeL
namespace Go.Proofs
open Go.RowKit
set_option linter.unusedVariables false

/-- A heap in memory, whatever its slice is. -/
def HpV (w : World) (g : Nat) (V : Value) (b : Nat) (ts : List Tm) (f : Int → Option Nat) (m p : Nat) : Prop :=
  Blk w g 55 #[V, .map (some b), .int .u64 p] ∧ Row w 61 3 V ts.length (tms ts) ∧ Mp w b m f
theorem HpB.v {w : World} {g h b c m p : Nat} {ts : List Tm} {f : Int → Option Nat} (H : HpB w g h b c ts f m p) : HpV w g (.slice (some ⟨h, 0, none⟩) ts.length c) b ts f m p := H
theorem HpV.quiet {w w' : World} {g : Nat} {V : Value} {b m p : Nat} {ts : List Tm} {f : Int → Option Nat} (H : HpV w g V b ts f m p) (hc : Chg [] w w') : HpV w' g V b ts f m p :=
  ⟨H.1.chg hc (by simp), H.2.1.chg hc (fun _ _ h => by cases h), H.2.2.chg hc (by simp)⟩
def zT : Tm := ⟨0, 0, 0⟩
theorem HpV.grown {w w2 : World} {g : Nat} {V : Value} {b m p h c : Nat} {ts : List Tm} {f : Int → Option Nat} (H : HpV w g V b ts f m p) (o : Obj)
    (hR : Row w2 61 3 (.slice (some ⟨h, 0, none⟩) (ts.length + 1) c) (ts.length + 1) (tms ts ++ tmCells zT)) (hg : (w.alloc o).grownBy w2 V.ownBlock) (hat : V.ownBlock = some h ∨ h = w.heap.size + 1) :
    HpB (w2.setCell ⟨g, 0, none⟩ (.slice (some ⟨h, 0, none⟩) (ts.length + 1 : Nat) c)) g h b c (ts ++ [zT]) f m p ∧ Chg (g :: foot V) w (w2.setCell ⟨g, 0, none⟩ (.slice (some ⟨h, 0, none⟩) (ts.length + 1 : Nat) c)) ∧ (h ∈ foot V ∨ w.heap.size ≤ h) := by
  obtain ⟨hB, hR0, hM⟩ := H
  have hgV := hR0.ty hB (by decide)
  have hbV := hM.row hR0
  have hbg := hM.far hB
  have hc : Chg (foot V) w w2 := ((Chg.refl (foot V) w).alloc o).grown hg (fun k hk => .inl (row_mem hk))
  have hB2 := hB.chg hc hgV
  have hM2 := hM.chg hc hbV
  have hgh := hR.ty hB2 (by decide)
  refine ⟨⟨?_, ?_, ?_⟩, ?_, ?_⟩
  · have := hB2.set_ 0 (.slice (some ⟨h, 0, none⟩) (ts.length + 1 : Nat) c)
    rw [List.length_append]
    simpa using this
  · have := hR.far (p := ⟨g, 0, none⟩) hgh (.slice (some ⟨h, 0, none⟩) (ts.length + 1 : Nat) c)
    rw [List.length_append, tms_append]
    simpa [tms] using this
  · exact hM2.same (Below.heap_setCell _ _ _ _ hbg)
  · exact (hc.mono (S' := g :: foot V) (fun k hk => .inl (by simp [hk]))).setCell (p := ⟨g, 0, none⟩) (.inl (by simp)) _
  · rcases hat with h1 | h1
    · exact .inl (row_mem h1)
    · exact .inr (by omega)
theorem HpB.puts {w : World} {g h b c m p : Nat} {ts : List Tm} {f : Int → Option Nat} (H : HpB w g h b c ts f m p) :
    HpB (w.setCell ⟨g, 2, none⟩ (.int .u64 ((p + 1 : Nat) : Int))) g h b c ts f m (p + 1) ∧ Chg [g, h, b] w (w.setCell ⟨g, 2, none⟩ (.int .u64 ((p + 1 : Nat) : Int))) := by
  obtain ⟨n1, n2, n3⟩ := H.ne
  obtain ⟨hB, hR, hM⟩ := H
  refine ⟨⟨?_, hR.far (by simpa [foot_some] using n1) _, hM.same (Below.heap_setCell _ _ _ _ n2)⟩, (Chg.refl _ _).setCell (p := ⟨g, 2, none⟩) (.inl (by simp)) _⟩
  have := hB.set_ 2 (.int .u64 ((p + 1 : Nat) : Int))
  simpa using this
theorem Plcs.put {ts : List Tm} {f : Int → Option Nat} (h : Plcs ts f) {x : Tm} (hx : f x.id = none) : Plcs (ts ++ [x]) (upd f x.id ts.length) := by
  refine ⟨fun k y hk => ?_, fun id hid => ?_⟩
  · unfold upd
    by_cases e : k < ts.length
    · rw [List.getElem?_append_left e] at hk
      have := h.1 k y hk
      rw [if_neg (fun e' => by rw [e', hx] at this; cases this)]
      exact this
    · rw [List.getElem?_append_right (by omega)] at hk
      have hl := (List.getElem?_eq_some_iff.1 hk).1
      simp at hl
      obtain rfl : k = ts.length := by omega
      simp at hk
      subst hk
      rw [if_pos rfl]
  · unfold upd at hid
    by_cases e : id = x.id
    · exact ⟨ts.length, x, by simp, e.symm⟩
    · rw [if_neg e] at hid
      obtain ⟨k, y, hk, e⟩ := h.2 id hid
      exact ⟨k, y, by rw [List.getElem?_append_left (List.getElem?_eq_some_iff.1 hk).1]; exact hk, e⟩
theorem put_hole {ts : List Tm} {x : Tm} (h : HeapO (at_ ts) ts.length) : Hole (at_ (ts ++ [x])) (ts ++ [x]).length ts.length := by
  have e : ∀ k, k < ts.length → at_ (ts ++ [x]) k = at_ ts k := fun k hk => at_of (by rw [List.getElem?_append_left hk, at_eq hk])
  intro k h0 h1
  simp at h1
  have hp := par_lt h0
  refine ⟨fun h2 h3 => ?_, fun h2 h3 => ?_⟩
  · unfold OkAt
    rw [e k (by omega), e _ (by omega)]
    exact h k h0 (by omega)
  · omega
theorem put_heap {ts' : List Tm} (h : DownI (at_ ts') (ts'.length) (ts'.length - 1)) : HeapO (at_ ts') ts'.length := fun k h0 h1 => by
  have hp := par_lt h0
  exact (h k h0 h1).1 (by omega)
/-- What up comes to behind a put. -/
theorem put_ends {w0 w1 w' : World} {g h b c m p : Nat} {S : List Nat} {ts K : List Tm} {x : Tm} (hs : St ts K p) (hx : x.put = p) (hm : m ≤ p + 1) (hE : UpEnds w1 g h b c m (p + 1) (ts ++ [x]) ts.length w') (hc : Chg S w0 w1) (hS : ∀ k ∈ [g, h, b], k ∈ S ∨ w0.heap.size ≤ k) :
    Turns g S (insK K x) (p + 1) w0 w' := by
  obtain ⟨ts', h1, h2, h3, h4⟩ := hE
  have hl := h1.length_eq
  rw [← hl] at h2
  refine ⟨[g, h, b], .inr ⟨h, b, c, m, ts', h3, hs.put hx h1 (put_heap (by rw [show ts'.length - 1 = ts.length by rw [hl]; simp]; exact h2)), hm, rfl⟩, hS, hc.trans h4 hS⟩
theorem tm_info : (Try.prog.info? 61).map (fun i => (i.zero, i.size, i.bytes)) = some (some (.agg #[.int .u64 0, .int .i64 0, .int .u64 0]), 3, 24) := by kernel_rfl
theorem put_busy {w : World} {g p : Nat} {S : List Nat} {K : List Tm} (H : HeapAt w g S K p) (at' : Int) {id : Int} (hi : I64 id) (hb : hasId K id = true) :
    Calls Try.prog 17 #[.pointer (some ⟨g, 0, none⟩), .int .u64 at', .int .i64 id] w fun e w' => e = .returned (.int .i64 14) ∧ w = w' := by
  have HH := has_any H hi
  rw [hb] at HH
  clear H hb
  go_enter Try.func17, Try.ntmps17
  go_wp2_with (go_at_call 15; refine HH.mono ?_; rintro e w' ⟨rfl, rfl⟩)
  go_ret
  exact ⟨rfl, rfl⟩
end Go.Proofs
