import Derived.Test.YtapgcadffghljaaM5
import Derived.Great.BuildSlice
import Derived.Laws.Tables
import Derived.RangeFuncBox
import Derived.Maps.AppendAt
section
namespace Go.Proofs
open Go.RowKit
set_option linter.unusedVariables false
set_option linter.unusedSimpArgs false

/-! ### A struct built of parts of many cells -/
theorem foldset_get (off : Nat) : ∀ (l : List Value) (n : Nat) (cells : Array Value) (i : Nat), off + n + l.length ≤ cells.size →
    ((l.zipIdx n).foldl (fun (cs : Array Value) (x : Value × Nat) => cs.setIfInBounds (off + x.2) x.1) cells)[i]? = if off + n ≤ i ∧ i < off + n + l.length then l[i - (off + n)]? else cells[i]? := by
  intro l
  induction l with
  | nil => intro n cells i h; simp; intro h1 h2; omega
  | cons v l ih =>
    intro n cells i h
    simp only [List.length_cons] at h
    rw [List.zipIdx_cons, List.foldl_cons, ih (n + 1) _ i (by simp; omega)]
    by_cases h1 : off + (n + 1) ≤ i ∧ i < off + (n + 1) + l.length
    · rw [if_pos h1, if_pos (by simp only [List.length_cons]; omega)]
      rw [show i - (off + n) = (i - (off + (n + 1))) + 1 by omega]
      simp
    · rw [if_neg h1]
      by_cases h2 : i = off + n
      · subst h2
        rw [if_pos (by simp only [List.length_cons]; omega), Nat.sub_self, Array.getElem?_setIfInBounds_self_of_lt (by omega)]
        simp
      · rw [if_neg (by simp only [List.length_cons]; omega), Array.getElem?_setIfInBounds_ne (by simpa using fun e => h2 e.symm)]
theorem foldset (off : Nat) (A cells : Array Value) (h : off + A.size ≤ cells.size) : A.zipIdx.foldl (fun (cs : Array Value) (x : Value × Nat) => cs.setIfInBounds (off + x.2) x.1) cells = splice_at cells off A := by
  obtain ⟨l⟩ := A
  simp only [List.size_toArray] at h
  have e : (List.toArray l).zipIdx.foldl (fun (cs : Array Value) (x : Value × Nat) => cs.setIfInBounds (off + x.2) x.1) cells = (l.zipIdx 0).foldl (fun (cs : Array Value) (x : Value × Nat) => cs.setIfInBounds (off + x.2) x.1) cells := by
    simp
  rw [e]
  apply Array.ext_getElem?
  intro i
  rw [foldset_get off l 0 cells i (by omega)]
  by_cases h1 : off + 0 ≤ i ∧ i < off + 0 + l.length
  · rw [if_pos h1]
    have := splice_in cells (List.toArray l) off (i - off) (by simpa using h) (by simp; omega)
    rw [show off + (i - off) = i by omega] at this
    rw [this]; simp
  · rw [if_neg h1, splice_out cells (List.toArray l) off i (by simpa using h) (by simp; omega)]
theorem fill_step {place : Nat → Option (Nat × Nat)} {cells A : Array Value} {i off : Nat} {rest : List (Nat × Value)} (h : place i = some (off, A.size)) (hf : off + A.size ≤ cells.size) : Instr.fill place cells ((i, .agg A) :: rest) = Instr.fill place (splice_at cells off A) rest := by
  rw [Instr.fill]
  simp only [h]
  split
  · rename_i hc
    exfalso
    simp [Value.cells] at hc
    omega
  · congr 1
    exact foldset off A cells hf
theorem fill_two {places : Nat → Option (Nat × Nat)} {Z R XA : Array Value} (h0 : places 0 = some (0, R.size)) (h1 : places 1 = some (R.size, XA.size)) (hZ : Z.size = R.size + XA.size) : Instr.fill places Z [(0, .agg R), (1, .agg XA)] = some (R ++ XA) := by
  have hs : (splice_at Z 0 R).size = Z.size := splice_size Z R 0 (by omega)
  rw [fill_step h0 (by omega), fill_step h1 (by omega), Instr.fill]
  congr 1
  have hz : Z.toList.length = R.size + XA.size := by simpa using hZ
  have hr : R.toList.length = R.size := by simp
  unfold splice_at
  simp only [List.take_zero, List.nil_append, Nat.zero_add]
  apply Array.toList_inj.1
  simp only [Array.toList_append]
  rw [List.take_append_of_le_length (by omega), List.take_of_length_le (by omega), List.drop_eq_nil_of_le (by simp only [List.length_append, List.length_drop]; omega), List.append_nil]
theorem fill_one {Z PA : Array Value} {n : Nat} (hP : PA.size = n) (hZ : Z.size = n) : Instr.fill (fun i => some (i * n, n)) Z [(0, .agg PA)] = some PA := by
  rw [fill_step (off := 0) (by simp [hP]) (by omega), Instr.fill, splice_all Z PA (by omega)]
theorem run_build115 (i q : Int) (XA : Array Value) (h : XA.size = 19) (w : World) : (Instr.build 115 #[(0, .agg #[.int .i64 i, .int .u64 q]), (1, .agg XA)]).run Try.prog w = .ok (.agg (#[.int .i64 i, .int .u64 q] ++ XA)) w := by
  refine run_build w 115 _ _ ?_
  have h1 : (Try.prog.info? 115).bind (·.zero) = some (.agg zP) := by kernel_rfl
  unfold Program.built
  cases hi : Try.prog.info? 115 with
  | none => rw [hi] at h1; cases h1
  | some it =>
    rw [hi] at h1
    simp only [Option.bind_some] at h1
    simp only [Try.underlying115, h1]
    have hp : (Try.prog.info? 33).map (·.size) = some 2 := by kernel_rfl
    have hq : (Try.prog.info? 37).map (·.size) = some 19 := by kernel_rfl
    cases h33 : Try.prog.info? 33 with
    | none => rw [h33] at hp; cases hp
    | some i33 =>
      cases h37 : Try.prog.info? 37 with
      | none => rw [h37] at hq; cases hq
      | some i37 =>
        rw [h33] at hp
        rw [h37] at hq
        simp only [Option.map_some, Option.some.injEq] at hp hq
        simp only [List.mapM_cons, List.mapM_nil, h33, h37, Option.map_some, Option.bind_eq_bind, Option.bind_some, Option.pure_def, hp, hq]
        exact fill_two (R := #[.int .i64 i, .int .u64 q]) (XA := XA) (by rfl) (by rw [h]; rfl) (by rw [h]; rfl)
theorem run_build49 (i q : Int) (XA : Array Value) (h : XA.size = 19) (w : World) : (Instr.build 49 #[(0, .agg #[.int .i64 i, .int .u64 q]), (1, .agg XA)]).run Try.prog w = .ok (.agg (#[.int .i64 i, .int .u64 q] ++ XA)) w := by
  refine run_build w 49 _ _ ?_
  have h1 : (Try.prog.info? 49).bind (·.zero) = some (.agg zP) := by kernel_rfl
  unfold Program.built
  cases hi : Try.prog.info? 49 with
  | none => rw [hi] at h1; cases h1
  | some it =>
    rw [hi] at h1
    simp only [Option.bind_some] at h1
    simp only [Try.underlying49, h1]
    have hp : (Try.prog.info? 33).map (·.size) = some 2 := by kernel_rfl
    have hq : (Try.prog.info? 37).map (·.size) = some 19 := by kernel_rfl
    cases h33 : Try.prog.info? 33 with
    | none => rw [h33] at hp; cases hp
    | some i33 =>
      cases h37 : Try.prog.info? 37 with
      | none => rw [h37] at hq; cases hq
      | some i37 =>
        rw [h33] at hp
        rw [h37] at hq
        simp only [Option.map_some, Option.some.injEq] at hp hq
        simp only [List.mapM_cons, List.mapM_nil, h33, h37, Option.map_some, Option.bind_eq_bind, Option.bind_some, Option.pure_def, hp, hq]
        exact fill_two (R := #[.int .i64 i, .int .u64 q]) (XA := XA) (by rfl) (by rw [h]; rfl) (by rw [h]; rfl)
/-- One element's cells, as a slice. -/
theorem run_bs {P : Program} {t e : TypeId} {n : Nat} {PA : Array Value} {ie : TypeInfo} {z : Value} (hu : P.underlying t = some (.slice e)) (hie : P.info? e = some ie) (hz : ie.zero = some z) (hn : ie.size = n) (hP : PA.size = n) (h0 : 0 < n) (h1 : n ≤ 1000) (w : World) :
    (Instr.buildSlice t 1 #[(0, .agg PA)]).run P w = .ok (.slice (some ⟨w.heap.size, 0, none⟩) 1 1) (w.alloc (.cells PA e)) :=
  run_buildSlice w t e 1 _ PA ie z hu hie hz (by omega) (by omega) (fill_one (by omega) (by simp))
section
variable {F : Fence} {m : Nat} {P : Program} {w : World} {ops : Array Oper} {rest : List Oper} {o : Oper} {a : Act} {Q : Exit → Act → World → Prop}
theorem wpi_build {t : TypeId} {vx vy v : Value} (hr : ∀ W, (Instr.build t #[(0, vx), (1, vy)]).run P W = .ok v W) (hg : Region.wanted o (yielded ops a.tmps) = true) (x y : Operand) (ho : o.op = .build t #[(0, x), (1, y)]) (hx : a.eval x = vx) (hy : a.eval y = vy) (h : wpListIn F m P ops Q rest (a.put o.dst v) w) : wpListIn F m P ops Q (o :: rest) a w :=
  wpListIn_step fun K hK => by
    rw [if_pos hg]
    refine wpIn_of_value (by simp [ho]) (by simp [ho]) (v := v) (w' := w) ?_ (hK _ _ h)
    unfold execOp
    simp only [ho, List.map_toArray, List.map_cons, List.map_nil, hx, hy, Sem.run_bind, hr, Result.andThen_ok, Sem.run_pure]
theorem wpi_bs {t e : TypeId} {n : Nat} {PA : Array Value} {ie : TypeInfo} {z : Value} (hu : P.underlying t = some (.slice e)) (hie : P.info? e = some ie) (hz : ie.zero = some z) (hn : ie.size = n) (hP : PA.size = n) (h0 : 0 < n) (h1 : n ≤ 1000) (hg : Region.wanted o (yielded ops a.tmps) = true) (x : Operand) (ho : o.op = .buildSlice t 1 #[(0, x)]) (hx : a.eval x = .agg PA)
    (h : wpListIn F m P ops Q rest (a.put o.dst (.slice (some ⟨w.heap.size, 0, none⟩) 1 1)) (w.alloc (.cells PA e))) : wpListIn F m P ops Q (o :: rest) a w :=
  wpListIn_step fun K hK => by
    rw [if_pos hg]
    refine wpIn_of_value (by simp [ho]) (by simp [ho]) (v := .slice (some ⟨w.heap.size, 0, none⟩) 1 1) (w' := w.alloc (.cells PA e)) ?_ (hK _ _ h)
    unfold execOp
    simp only [ho, List.map_toArray, List.map_cons, List.map_nil, hx, Sem.run_bind, run_bs hu hie hz hn hP h0 h1, Result.andThen_ok, Sem.run_pure]
theorem wpl_build {t : TypeId} {vx vy v : Value} (hr : ∀ W, (Instr.build t #[(0, vx), (1, vy)]).run P W = .ok v W) (hg : Region.wanted o (yielded ops a.tmps) = true) (x y : Operand) (ho : o.op = .build t #[(0, x), (1, y)]) (hx : a.eval x = vx) (hy : a.eval y = vy) (h : wpList P ops Q rest (a.put o.dst v) w) : wpList P ops Q (o :: rest) a w :=
  wpList_step fun K hK => by
    rw [if_pos hg]
    unfold Oper.wp execOp
    simp only [ho, List.map_toArray, List.map_cons, List.map_nil, hx, hy, Sem.run_bind, hr, Result.andThen_ok, Sem.run_pure]
    exact hK _ _ h
end

/-! ### The same arms, to be met by with_reducible refine -/
section
variable {F : Fence} {m : Nat} {P : Program} {w : World} {b n off : Nat} {t e : TypeId} {A cur : Array Value} {ops : Array Oper} {rest : List Oper} {o : Oper} {a : Act} {Q : Exit → Act → World → Prop}
theorem wpi_loadE (T : AggOf P t n) (hB : Blk w b e A) (hn : A.size = n) (hg : Region.wanted o (yielded ops a.tmps) = true) (ho : ∃ x, o.op = .load t x ∧ a.eval x = .pointer (some ⟨b, 0, none⟩)) (h : wpListIn F m P ops Q rest (a.put o.dst (.agg A)) w) : wpListIn F m P ops Q (o :: rest) a w := by
  obtain ⟨x, h1, h2⟩ := ho; exact wpi_load T hB hn hg x h1 h2 h
theorem wpi_load_atE (T : AggOf P t n) (hn : A.size = n) (hc : ∀ j v, A[j]? = some v → w.cell? ⟨b, off + j, none⟩ = some v) (hg : Region.wanted o (yielded ops a.tmps) = true) (ho : ∃ x, o.op = .load t x ∧ a.eval x = .pointer (some ⟨b, off, none⟩)) (h : wpListIn F m P ops Q rest (a.put o.dst (.agg A)) w) : wpListIn F m P ops Q (o :: rest) a w := by
  obtain ⟨x, h1, h2⟩ := ho; exact wpi_load_at T hn hc hg x h1 h2 h
theorem wpi_storeE (T : AggOf P t n) (hB : Blk w b e cur) (hc : cur.size = n) (hn : A.size = n) (h1 : A.all (·.oneCell') = true) (hg : Region.wanted o (yielded ops a.tmps) = true) (ho : ∃ x y, o.op = .store t x y ∧ a.eval x = .pointer (some ⟨b, 0, none⟩) ∧ a.eval y = .agg A) (h : ∀ w', Stored w w' b e A → wpListIn F m P ops Q rest (a.put o.dst undef) w') : wpListIn F m P ops Q (o :: rest) a w := by
  obtain ⟨x, y, h2, h3, h4⟩ := ho; exact wpi_store T hB hc hn h1 hg x y h2 h3 h4 h
theorem wpi_buildE {vx vy v : Value} (hr : ∀ W, (Instr.build t #[(0, vx), (1, vy)]).run P W = .ok v W) (hg : Region.wanted o (yielded ops a.tmps) = true) (ho : ∃ x y, o.op = .build t #[(0, x), (1, y)] ∧ a.eval x = vx ∧ a.eval y = vy) (h : wpListIn F m P ops Q rest (a.put o.dst v) w) : wpListIn F m P ops Q (o :: rest) a w := by
  obtain ⟨x, y, h2, h3, h4⟩ := ho; exact wpi_build hr hg x y h2 h3 h4 h
theorem wpi_bsE {PA : Array Value} {ie : TypeInfo} {z : Value} (hu : P.underlying t = some (.slice e)) (hie : P.info? e = some ie) (hz : ie.zero = some z) (hn : ie.size = n) (hP : PA.size = n) (h0 : 0 < n) (h1 : n ≤ 1000) (hg : Region.wanted o (yielded ops a.tmps) = true) (ho : ∃ x, o.op = .buildSlice t 1 #[(0, x)] ∧ a.eval x = .agg PA)
    (h : wpListIn F m P ops Q rest (a.put o.dst (.slice (some ⟨w.heap.size, 0, none⟩) 1 1)) (w.alloc (.cells PA e))) : wpListIn F m P ops Q (o :: rest) a w := by
  obtain ⟨x, h2, h3⟩ := ho; exact wpi_bs hu hie hz hn hP h0 h1 hg x h2 h3 h
theorem wpl_loadE (T : AggOf P t n) (hB : Blk w b e A) (hn : A.size = n) (hg : Region.wanted o (yielded ops a.tmps) = true) (ho : ∃ x, o.op = .load t x ∧ a.eval x = .pointer (some ⟨b, 0, none⟩)) (h : wpList P ops Q rest (a.put o.dst (.agg A)) w) : wpList P ops Q (o :: rest) a w := by
  obtain ⟨x, h1, h2⟩ := ho; exact wpl_load T hB hn hg x h1 h2 h
theorem wpl_load_atE (T : AggOf P t n) (hn : A.size = n) (hc : ∀ j v, A[j]? = some v → w.cell? ⟨b, off + j, none⟩ = some v) (hg : Region.wanted o (yielded ops a.tmps) = true) (ho : ∃ x, o.op = .load t x ∧ a.eval x = .pointer (some ⟨b, off, none⟩)) (h : wpList P ops Q rest (a.put o.dst (.agg A)) w) : wpList P ops Q (o :: rest) a w := by
  obtain ⟨x, h1, h2⟩ := ho; exact sk_list_load T hn hc hg x h1 h2 h
theorem wpl_storeE (T : AggOf P t n) (hB : Blk w b e cur) (hc : cur.size = n) (hn : A.size = n) (h1 : A.all (·.oneCell') = true) (hg : Region.wanted o (yielded ops a.tmps) = true) (ho : ∃ x y, o.op = .store t x y ∧ a.eval x = .pointer (some ⟨b, 0, none⟩) ∧ a.eval y = .agg A) (h : ∀ w', Stored w w' b e A → wpList P ops Q rest (a.put o.dst undef) w') : wpList P ops Q (o :: rest) a w := by
  obtain ⟨x, y, h2, h3, h4⟩ := ho; exact wpl_store T hB hc hn h1 hg x y h2 h3 h4 h
theorem wpl_store_atE (T : AggOf P t n) (hB : Blk w b e cur) (hn : A.size = n) (hf : off + A.size ≤ cur.size) (h1 : A.all (·.oneCell') = true) (hg : Region.wanted o (yielded ops a.tmps) = true) (ho : ∃ x y, o.op = .store t x y ∧ a.eval x = .pointer (some ⟨b, off, none⟩) ∧ a.eval y = .agg A) (h : ∀ w', Stored w w' b e (splice_at cur off A) → wpList P ops Q rest (a.put o.dst undef) w') : wpList P ops Q (o :: rest) a w := by
  obtain ⟨x, y, h2, h3, h4⟩ := ho; exact sk_list_store T hB hn hf h1 hg x y h2 h3 h4 h
theorem wpl_buildE {vx vy v : Value} (hr : ∀ W, (Instr.build t #[(0, vx), (1, vy)]).run P W = .ok v W) (hg : Region.wanted o (yielded ops a.tmps) = true) (ho : ∃ x y, o.op = .build t #[(0, x), (1, y)] ∧ a.eval x = vx ∧ a.eval y = vy) (h : wpList P ops Q rest (a.put o.dst v) w) : wpList P ops Q (o :: rest) a w := by
  obtain ⟨x, y, h2, h3, h4⟩ := ho; exact wpl_build hr hg x y h2 h3 h4 h
end
end Go.Proofs
end
section
namespace Go.Proofs
open Go.RowKit Go.Shelf
set_option linter.unusedVariables false
set_option linter.unusedSimpArgs false
attribute [local go_sem] Oper.semAt_some

/-- The maker of the iterator that goes over the table as it is. -/
theorem make_now (n : Nat) (p : Option Addr) (w : World) :
    CallsIn Fence.wide n Try.prog 68 #[.pointer p] w fun e w' => e = .returned (.func (.func 71) #[] #[.pointer (some ⟨w.heap.size, 0, none⟩)]) ∧ w' = w.alloc (.cells #[.pointer p] 62) := by
  refine callsIn_of_wp Try.func68 rfl trivial ?_ rfl
  simp only [Try.ntmps68, List.size_toArray, List.length_cons, List.length_nil, Nat.reduceAdd, Nat.reduceSub, Array.replicate_succ, Array.replicate_zero, List.push_toArray, List.append_toArray, List.nil_append, List.cons_append]
  gi_wp2
  go_ret
  exact ⟨rfl, rfl⟩

theorem now_stops (n : Nat) (hn : 1 ≤ n) (b g N : Nat) (S : List Nat) (t : Tab Gr) (hw : t.WF) (hN : t.size = (N : Nat)) (w : World) (hb : b < w.heap.size) (hV : w.cell? ⟨b, 0, none⟩ = some (.pointer (some ⟨g, 0, none⟩))) (hT : TabAt w g S t) :
    SeqStopsK Fence.wide n Try.prog 71 #[.pointer (some ⟨b, 0, none⟩)] Plc.encs (KeepL (b :: S)) (fun ys => ys = nowL t N) (fun pre => pre <+: nowL t N) (N + 1) w := fun l J Jx W hW hJ _ hY h0 =>
  now_in n hn l b g N S t hw hN w hb hV hT J Jx W ⟨hW.size, fun k hk => hW.block k (by
    rcases List.mem_cons.1 hk with rfl | hk
    · exact hb
    · exact hT.lt k hk)⟩ hJ hY h0

theorem Try.info_N : (Try.prog.info? 115).map (fun i => (i.zero, i.size, i.bytes)) = some (some (.agg zP), 21, 168) := by kernel_rfl

/-- A captured box, and the slice of names that it holds; both were made from n0 on. -/
structure Held (n0 : Nat) (W : World) (B : Nat) (xs : List Plc) : Prop where
  ge : n0 ≤ B
  lt : B < W.heap.size
  row : ∃ V, W.cell? ⟨B, 0, none⟩ = some V ∧ Row W 115 21 V xs.length (plcCells xs) ∧ (∀ k ∈ foot V, n0 ≤ k ∧ k < W.heap.size)
def Gathered (n0 : Nat) (xs : List Plc) (e : Ending) (W : World) : Prop := ∃ B, e = .returned (.func (.func 69) #[] #[.pointer (some ⟨B, 0, none⟩)]) ∧ Held n0 W B xs


set_option maxRecDepth 100000 in
set_option maxHeartbeats 3200000 in
/-- **All**: it gathers all that is there, at once. -/
theorem all_in (n : Nat) (hn : 6 ≤ n) (g N : Nat) (S : List Nat) (t : Tab Gr) (hw : t.WF) (hN : t.size = (N : Nat)) (w : World) (hT : TabAt w g S t) :
    CallsIn Fence.wide n Try.prog 56 #[.pointer (some ⟨g, 0, none⟩)] w fun e W' => Gathered w.heap.size (nowL t N) e W' ∧ Below w.heap.size w W' := by
  have h1 : 1 ≤ n := by omega
  have hN4 : N ≤ 4096 := by have := hw.s1; omega
  have hlen : ∀ pre : List Plc, pre.length < N + 1 → pre.length ≤ 4096 := fun _ _ => by omega
  refine callsIn_of_wp_marks Try.func56 rfl trivial ?_ rfl
  simp only [Try.ntmps56, List.size_toArray, List.length_cons, List.length_nil, Nat.reduceAdd, Nat.reduceSub, Array.replicate_succ, Array.replicate_zero, List.push_toArray, List.append_toArray, List.nil_append, List.cons_append]
  gi_wp2_with (refine ⟨trivial, ?_⟩; gi_at_call 68; refine (make_now (n - 1) _ _).mono ?_; rintro e w' ⟨rfl, rfl⟩)
  have bS := (Boxed.new w 113 (.slice none 0 0)).alloc (.cells #[.pointer (some ⟨g, 0, none⟩)] 62)
  have bT := Boxed.new (w.alloc (.cells #[.slice none 0 0] 113)) 62 (.pointer (some ⟨g, 0, none⟩))
  simp only [World.size_alloc] at bT
  have hB0 : Below w.heap.size w ((w.alloc (.cells #[.slice none 0 0] 113)).alloc (.cells #[.pointer (some ⟨g, 0, none⟩)] 62)) := ((Below.refl _ w).alloc (Nat.le_refl _) _).alloc (by simp) _
  have hT0 := (hT.quiet (((Chg.refl [] w).alloc (.cells #[.slice none 0 0] 113)).alloc (.cells #[.pointer (some ⟨g, 0, none⟩)] 62)))
  have hsz : ((w.alloc (.cells #[.slice none 0 0] 113)).alloc (.cells #[.pointer (some ⟨g, 0, none⟩)] 62)).heap.size = w.heap.size + 2 := by simp
  obtain ⟨W0, hW0⟩ : ∃ W0, (w.alloc (.cells #[.slice none 0 0] 113)).alloc (.cells #[.pointer (some ⟨g, 0, none⟩)] 62) = W0 := ⟨_, rfl⟩
  rw [hW0] at bS bT hB0 hsz hT0 ⊢
  clear hW0
  have hL : ∀ k ∈ (w.heap.size + 1) :: S, k < W0.heap.size ∧ k ≠ w.heap.size := fun k hk => by
    rcases List.mem_cons.1 hk with rfl | hk
    · omega
    · have := hT.lt k hk; omega
  obtain ⟨i0, hi0, hz0, hz1, hz2⟩ := info_parts Try.info_N
  refine wpIn_rangeFunc_ownH rfl h1 (gf := 71) (lb := #[.pointer (some ⟨w.heap.size + 1, 0, none⟩)]) rfl trivial (enters_of Try.func71 (by kernel_rfl) rfl)
    (now_stops (n - 1) (by omega) (w.heap.size + 1) g N S t hw hN W0 (by omega) bT.cell hT0) (fun h k => h.trans k)
    (fun W l o o' hl ho _ _ => ⟨by simp [World.putObj], fun k hk => by have := hL k hk; exact (grownBy_putObj' W l o').block k (by have := (Array.getElem?_eq_some_iff.1 ho).1; omega) (fun e => by cases e; omega)⟩)
    (Below.refl _ _) (fun _ => rfl)
    (fun pre W => ((∃ V, Boxed W w.heap.size 113 V ∧ W.ownsRow w.heap.size 115 21 V pre.length (plcCells pre) ∧ True) ∧ Boxed W (w.heap.size + 1) 62 (.pointer (some ⟨g, 0, none⟩))) ∧ Below w.heap.size W0 W)
    (fun _ _ _ => False)
    (OwnFrom.and (OwnFrom.and (Own.from (holdsRow_own w.heap.size w.heap.size 113 115 21 (fun pre : List Plc => pre.length) (fun pre => plcCells pre) (fun pre v => True)) _) (Own.from (boxed_own _ _ _) _)) (ownFrom_below (by omega) (by omega)))
    (fun _ _ _ _ _ hs _ _ => hs)
    ⟨⟨⟨_, bS, World.ownsRow_nil _ _ _ _, trivial⟩, bT⟩, Below.refl _ _⟩
    (fun x a' W => ∃ Bx By, w.heap.size + 1 < Bx ∧ w.heap.size + 1 < By ∧ Blk W Bx 33 #[.int .i64 x.i, .int .u64 x.q] ∧ Blk W By 37 x.x.arr ∧ a' = { tmps := #[.pointer (some ⟨g, 0, none⟩), undef, .nilFunc, .pointer (some ⟨w.heap.size, 0, none⟩), .pointer (some ⟨Bx, 0, none⟩), .pointer (some ⟨By, 0, none⟩), .pointer (some ⟨g, 0, none⟩), .func (.func 71) #[] #[.pointer (some ⟨w.heap.size + 1, 0, none⟩)], .agg #[.int .i64 x.i, .int .u64 x.q], x.x.val, undef, undef, undef, undef, undef, undef, undef], defers := [] })
    (fun x a' _ X Y row hs hg hr => by
      obtain ⟨Bx, By, h1, h1', h2, h2', h3⟩ := hs
      have k : ∀ {b : Nat} {t : TypeId} {cs : Array Value}, Blk X b t cs → Blk Y b t cs := fun {b t cs} h2 => h2.same (hg.block b h2.lt (fun e => by
        obtain ⟨_, o, ho, hc⟩ := hr b e.symm
        unfold Blk at h2
        rw [h2] at ho; cases ho; cases hc))
      exact ⟨Bx, By, h1, h1', k h2, k h2', h3⟩)
    ?assign ?body ?done ?stop
  case assign =>
    rintro l pre x W K ⟨⟨⟨V, hV, hr, _⟩, hT9⟩, hB⟩ hK
    have hz := hB.size
    have hzw : w.heap.size ≤ W.heap.size := by omega
    have hGs := x.x.size
    have hG1 := x.x.one
    simp only [Plc.encs, Gr.val]
    obtain ⟨XA, hXA⟩ : ∃ XA, XA = x.x.arr := ⟨_, rfl⟩
    rw [← hXA] at hGs hG1 hK ⊢
    have hXA' := Lib.hid hXA
    clear hXA
    obtain ⟨W1, hW1⟩ : ∃ W1, W1 = (W.alloc (.cells #[.int .i64 x.i, .int .u64 x.q] 33)).alloc (.cells zG 37) := ⟨_, rfl⟩
    have hc1 : Chg [] W W1 := by rw [hW1]; exact ((Chg.refl [] W).alloc _).alloc _
    have hb1 : Blk W1 (W.heap.size + 1) 37 zG := by rw [hW1]; exact Blk.at' (W.alloc _) 37 _ (by simp)
    have hb0 : Blk W1 W.heap.size 33 #[.int .i64 x.i, .int .u64 x.q] := by rw [hW1]; exact (Blk.new W 33 _).alloc _
    have hs1 : W1.heap.size = W.heap.size + 2 := by rw [hW1]; simp
    have HW1 := Lib.hid hW1
    clear hW1
    gi_wp2_with (first
      | (rw [← HW1.out]; refine wpi_store T37 hb1 rfl hGs hG1 rfl _ _ rfl rfl rfl ?_; intro w3 hS3))
    have hc3 : Chg [] W w3 := hc1.trans hS3.chg (fun k hk => by simp at hk; omega)
    have hg3 := grown_of_chg hc3
    have hko : KeepsOthers W w3 := KeepsOthers.of_grownBy hg3 (fun j o e _ => by cases e)
    have hrr : ∀ {v : Value}, v.ownBlock = none ∨ v.ownBlock ≠ none := fun {v} => by cases v.ownBlock <;> simp
    exact hK _ _ (hko.from _) (KeepL.chg hc3 (fun k hk => by have := hL k hk; omega)) ⟨⟨⟨V, hV.kept hg3 (by simp), hr.kept hg3 hrr, trivial⟩, hT9.kept hg3 (by simp)⟩, hB.trans (hc3.below (by simp) hzw)⟩ ⟨W.heap.size, W.heap.size + 1, by omega, by omega, hS3.far hb0 (by omega), hS3.blk, by rw [hXA'.out] <;> rfl⟩
  case body =>
    rintro l pre x a' W hl ⟨r, hr⟩ ⟨⟨⟨V, hV, hrow, _⟩, hT9⟩, hB⟩ ⟨Bx, By, hBx, hBy, bX, bY, rfl⟩ hlt
    have hz := hB.size
    have hzw : w.heap.size ≤ W.heap.size := by omega
    have hc := hV.cell
    have hf := hV.frozen
    have x0 := bX.cell 0
    have x1 := bX.cell 1
    have ly := bY.lt
    have lx := bX.lt
    have hGs := x.x.size
    have hln := hlen pre hlt
    have hne := hT9.not_row (by decide) hrow
    have hPs := x.size
    have hP1 := x.ones
    have hPL : x.arr.toList.length = 21 := by simp [hPs]
    have hsn := plcCells_snoc pre x
    have hPA : x.arr = #[.int .i64 x.i, .int .u64 x.q] ++ x.x.arr := rfl
    unfold Gr.val
    obtain ⟨XA, hXA⟩ : ∃ XA, XA = x.x.arr := ⟨_, rfl⟩
    rw [← hXA] at hGs bY hPA
    rw [← hXA]
    obtain ⟨PA, hPA2⟩ : ∃ PA, PA = x.arr := ⟨_, rfl⟩
    rw [← hPA2] at hPs hP1 hPL hPA hsn
    have hbd := run_build115 x.i x.q XA hGs
    rw [← hPA] at hbd
    have HSN := Lib.hid hsn
    clear hXA hPA hPA2 hsn
    gi_wp2_with (first
      | ((with_reducible refine wpi_loadE T37 bY hGs ?_ ?_ ?_); (· rfl); (· exact ⟨_, rfl, rfl⟩))
      | ((with_reducible refine wpi_buildE hbd ?_ ?_ ?_); (· rfl); (· exact ⟨_, _, rfl, rfl, rfl⟩))
      | ((with_reducible refine wpi_bsE Try.underlying113 hi0 hz0 hz1 hPs (by omega) (by omega) ?_ ?_ ?_); (· rfl); (· exact ⟨_, rfl, rfl⟩))
      | (gi_at_builtin; refine wpListIn_append_own _ rfl _ _ 113 rfl w.heap.size 115 i0 (.agg zP) 21 168 Try.underlying113 hi0 hz0 hz1 hz2 rfl (by decide) _ _ _ rfl (hrow.alloc _) ⟨W.heap.size, 0, none⟩ 1 1 PA.toList rfl hPL (World.news_of_block (cs := PA) (t := 115) (fr := (0, 0)) (heap_alloc_new W _)) hP1 (by unfold maxLen; omega) (by omega) (by simp; omega) ?_; intro v' w1 hown' hgrow _; obtain ⟨g', cap', rfl⟩ := ownsRow_succ hown'; obtain ⟨hv1, hv2, hr2, hk2, hb2⟩ := hV.appended (by decide) hrow hzw (Nat.le_refl _) hown' hgrow; have hc1 := hv1.cell; have hf1 := hv1.frozen; have hT8 := ((hT9.alloc (.cells PA 115)).kept hgrow hne).other (B' := w.heap.size) (by omega) (.slice (some ⟨g', 0, none⟩) (pre.length + 1) cap')))
    have hfin : (w1.setCell ⟨w.heap.size, 0, none⟩ (.slice (some ⟨g', 0, none⟩) (pre.length + 1) cap')).ownsRow w.heap.size 115 21 (.slice (some ⟨g', 0, none⟩) (pre.length + 1) cap') (pre ++ [x]).length (plcCells (pre ++ [x])) := by
      rw [HSN.out, List.length_append]; exact hr2
    refine ⟨hk2.from _, ⟨hb2.size, fun k hk => ?_⟩, ⟨⟨⟨_, hv2, hfin⟩, hT8⟩, hB.trans hb2⟩⟩
    rcases List.mem_cons.1 hk with rfl | hk
    · exact hT8.trans hT9.symm
    · exact hb2.block k (hT.lt k hk)
  case done =>
    rintro D zs W hD rfl ⟨⟨⟨V, hV, hrow, _⟩, hT9⟩, hB⟩ hK
    have hz := hB.size
    have cS := hV.cell
    gi_wp2
    refine ⟨by simp, .inl ⟨_, _, rfl, run_takeDeferred hK, ?_⟩⟩
    have hgD := grownBy_putObj' W D (.deferred none)
    have hD2 : some w.heap.size ≠ some D := by intro e; cases e; omega
    refine ⟨_, results_tmp rfl _ _ _, ⟨w.heap.size, rfl, Nat.le_refl _, by have := (hV.kept hgD hD2).lt; exact this, V, (hV.kept hgD hD2).cell, Row.of_own (ownsRow_putObj hrow _ hK rfl), fun k hk => ⟨?_, Row.lt (Row.of_own (ownsRow_putObj hrow (.deferred none) hK rfl)) k hk⟩⟩, (hB0.trans hB).trans (belowK_b (w := w) (Nat.le_refl _) W D _ _ (by omega) hK rfl rfl)⟩
    rcases hrow.2 with ⟨rfl, _⟩ | ⟨g', cap, cur, rfl, hb, _, _⟩
    · cases hk
    · simp [foot_some] at hk; subst hk; exact hb
  case stop =>
    rintro D c pre W _ _ h _
    exact h.elim
end Go.Proofs
end
section
namespace Go.Proofs
open Go.RowKit Go.Shelf
set_option linter.unusedVariables false

/-- A captured box, and the slice of names that it holds; both were made from n0 on, and lie below hi. -/
structure HeldTo (n0 hi : Nat) (W : World) (B : Nat) (xs : List Plc) : Prop where
  ge : n0 ≤ B
  lt : B < hi
  top : hi ≤ W.heap.size
  row : ∃ V, W.cell? ⟨B, 0, none⟩ = some V ∧ Row W 115 21 V xs.length (plcCells xs) ∧ (∀ k ∈ foot V, n0 ≤ k ∧ k < hi)
theorem Held.to {n0 : Nat} {W : World} {B : Nat} {xs : List Plc} (h : Held n0 W B xs) : HeldTo n0 W.heap.size W B xs := ⟨h.ge, h.lt, Nat.le_refl _, h.row⟩
/-- What changes blocks that lie ahead of it, or behind it, leaves it as it is. -/
theorem HeldTo.chg {n0 hi : Nat} {W W' : World} {B : Nat} {xs : List Plc} {S : List Nat} (h : HeldTo n0 hi W B xs) (hc : Chg S W W') (hS : ∀ k ∈ S, k < n0 ∨ hi ≤ k) : HeldTo n0 hi W' B xs := by
  obtain ⟨h1, h2, h3, V, hV, hR, hf⟩ := h
  refine ⟨h1, h2, Nat.le_trans h3 hc.size, V, ?_, hR.chg hc (fun k hk hm => ?_), hf⟩
  · rw [hc.cell (p := ⟨B, 0, none⟩) (Nat.lt_of_lt_of_le h2 h3) (fun hm => by have := hS _ hm; simp only at this; omega)]
    exact hV
  · have a := hf k hk
    have b := hS k hm
    omega
theorem HeldTo.below {n0 hi D : Nat} {W W' : World} {B : Nat} {xs : List Plc} (h : HeldTo n0 hi W B xs) (hb : Below D W W') (hD : hi ≤ D) : HeldTo n0 hi W' B xs := by
  obtain ⟨h1, h2, h3, V, hV, hR, hf⟩ := h
  exact ⟨h1, h2, Nat.le_trans h3 hb.size, V, (hb.cell (p := ⟨B, 0, none⟩) (Nat.lt_of_lt_of_le h2 hD)).trans hV, hR.same (fun k hk => hb.block k (Nat.lt_of_lt_of_le (hf k hk).2 hD)), hf⟩

theorem HeldTo.keep {n0 hi : Nat} {X : Nat → Prop} {W W' : World} {B : Nat} {xs : List Plc} (h : HeldTo n0 hi W B xs) (hk : KeepP X W W') (hX : ∀ k, n0 ≤ k → k < hi → X k) : HeldTo n0 hi W' B xs := by
  obtain ⟨h1, h2, h3, V, hV, hR, hf⟩ := h
  exact ⟨h1, h2, Nat.le_trans h3 hk.size, V, (hk.cell (p := ⟨B, 0, none⟩) (hX B h1 h2)).trans hV, hR.same (fun k hm => hk.block k (hX k (hf k hm).1 (hf k hm).2)), hf⟩
/-- The iterator that All hands out, for a range over it. -/
theorem over_stops {β : Type} (f : β → Plc) (n : Nat) (hn : 1 ≤ n) {n0 hi B : Nat} {X : Nat → Prop} {xs : List β} {w : World} (h : HeldTo n0 hi w B (xs.map f)) (hX : ∀ k, n0 ≤ k → k < hi → X k) (hXw : ∀ k, X k → k < w.heap.size) (hl : xs.length ≤ 5000) :
    SeqStopsK Fence.wide n Try.prog 69 #[.pointer (some ⟨B, 0, none⟩)] (fun x => Plc.encs (f x)) (KeepP X) (fun ys => ys = xs) (fun pre => pre <+: xs) xs.length w := fun l J Jx W hW hJ _ hY h0 => by
  obtain ⟨h1, h2, h3, V, hV, hR, hf⟩ := h
  rw [List.length_map] at hR
  exact over_in f n hn l B X V xs w hXw (hX B h1 h2) hV hR (fun k hk => hX k (hf k hk).1 (hf k hk).2) hl J Jx W (KeepP.below hW hXw) hJ hY h0
end Go.Proofs
end
