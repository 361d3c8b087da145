import Derived.Test.YtojpllmghfafjaaM5
import Derived.Deep.WholeRow
import Derived.Deep.Cut
section
namespace Go.Proofs
open Go.RowKit
set_option linter.unusedVariables false
set_option linter.unusedSimpArgs false

/-! ### A struct that is a block: loaded, stored whole -/
theorem info30 : (Try.prog.info? 30).map (·.size) = some 19 := by kernel_rfl
theorem info36 : (Try.prog.info? 36).map (·.size) = some 6 := by kernel_rfl
/-- A type that is a struct of so many cells. -/
def Whole (t : TypeId) (n : Nat) : Prop := (∃ d, Try.prog.underlying t = some d ∧ (match d with | .struct _ | .array _ _ => true | _ => false) = true) ∧ (Try.prog.info? t).map (·.size) = some n
theorem whole30 : Whole 30 19 := ⟨⟨_, Try.underlying30, rfl⟩, info30⟩
theorem whole36 : Whole 36 6 := ⟨⟨_, Try.underlying36, rfl⟩, info36⟩
theorem run_loadVar_blk {w : World} {b : Nat} {t t' : TypeId} {A : Array Value} (hB : Blk w b t' A) (hw : Whole t A.size) : (loadVar t ⟨b, 0, none⟩).run Try.prog w = .ok (.agg A) w := by
  obtain ⟨⟨d, hu, hd⟩, hi⟩ := hw
  refine run_loadVar_row w b t' t A (0, 0) d hB hu ?_ hi
  cases d <;> first | rfl | exact hd
theorem wp_load_blk {w : World} {b : Nat} {t t' : TypeId} {A : Array Value} (hB : Blk w b t' A) (hw : Whole t A.size) {o : Oper} {a : Act} {K : Act → World → Prop} {Q : Exit → Act → World → Prop} (x : Operand) (ho : o.op = .load t x)
    (hx : a.eval x = .pointer (some ⟨b, 0, none⟩)) (h : K (a.put o.dst (.agg A)) w) : o.wp Try.prog a w K Q := by
  unfold Oper.wp execOp
  simp only [ho, hx, Instr.loadAt, Instr.sureAddr, Sem.run_bind, Sem.run_pure, Result.andThen_ok, run_loadVar_blk hB hw]
  exact h
theorem wpList_load_blk {w : World} {b : Nat} {t t' : TypeId} {A : Array Value} (hB : Blk w b t' A) (hw : Whole t A.size) {ops : Array Oper} {rest : List Oper} {o : Oper} {a : Act} {Q : Exit → Act → World → Prop} (hg : o.guard = none) (x : Operand) (ho : o.op = .load t x)
    (hx : a.eval x = .pointer (some ⟨b, 0, none⟩)) (h : wpList Try.prog ops Q rest (a.put o.dst (.agg A)) w) : wpList Try.prog ops Q (o :: rest) a w :=
  wpList_plain hg fun _ hK => wp_load_blk hB hw x ho hx (hK _ _ h)
theorem Blk.row {w : World} {b : Nat} {t : TypeId} {A A' : Array Value} (hB : Blk w b t A) : Blk (w.setRow b A') b t A' := setRow_heap w b A A' t (0, 0) hB
theorem Chg.row (w : World) (b : Nat) (A : Array Value) : Chg [b] w (w.setRow b A) := ⟨rfl, rfl, rfl, by simp, fun k _ hn => setRow_other w b k A (by simpa using hn)⟩
theorem wp_store_blk {w : World} {b : Nat} {t t' : TypeId} {A A' : Array Value} (hB : Blk w b t' A) (hw : Whole t A'.size) (hs : A.size = A'.size) (h1 : A'.all (·.oneCell') = true) {o : Oper} {a : Act} {K : Act → World → Prop} {Q : Exit → Act → World → Prop} (x y : Operand) (ho : o.op = .store t x y)
    (hx : a.eval x = .pointer (some ⟨b, 0, none⟩)) (hy : a.eval y = .agg A') (h : ∀ w', Blk w' b t' A' → Chg [b] w w' → K (a.put o.dst undef) w') : o.wp Try.prog a w K Q :=
  wp_store_row t x y ho b A' hx hy t' A hB hw.2 hs h1 (h _ hB.row (Chg.row w b A'))
theorem wpList_store_blk {w : World} {b : Nat} {t t' : TypeId} {A A' : Array Value} (hB : Blk w b t' A) (hw : Whole t A'.size) (hs : A.size = A'.size) (h1 : A'.all (·.oneCell') = true) {ops : Array Oper} {rest : List Oper} {o : Oper} {a : Act} {Q : Exit → Act → World → Prop} (hg : o.guard = none) (x y : Operand) (ho : o.op = .store t x y)
    (hx : a.eval x = .pointer (some ⟨b, 0, none⟩)) (hy : a.eval y = .agg A') (h : ∀ w', Blk w' b t' A' → Chg [b] w w' → wpList Try.prog ops Q rest (a.put o.dst undef) w') : wpList Try.prog ops Q (o :: rest) a w :=
  wpList_plain hg fun _ hK => wp_store_blk hB hw hs h1 x y ho hx hy fun w' h2 h3 => hK _ _ (h w' h2 h3)
theorem Gr.one (g : Gr) : g.arr.all (·.oneCell') = true := by simp [Gr.arr, Value.oneCell']
theorem Cl.one (c : Cl) : c.arr.all (·.oneCell') = true := by simp [Cl.arr, Value.oneCell']
theorem Gr.size (g : Gr) : g.arr.size = 19 := rfl

/-- A zero goroutine's cells. -/
abbrev zG : Array Value := #[.int .i64 0, .bool false, .int .i64 0, .int .u64 0, .int .i64 0, .int .u64 0, .int .u8 0, .int .i64 0, .int .i64 0, .int .u64 0, .int .u64 0, .int .u64 0, .int .u64 0, .int .u64 0, .int .u64 0, .int .u64 0, .int .u64 0, .int .i64 0, .int .u64 0]
abbrev zC : Array Value := #[.int .i64 0, .int .u64 0, .int .u64 0, .int .u64 0, .int .u64 0, .int .u64 0]
theorem res_load {fn : Func} {tmps : Array Value} {b : Nat} {t t' : TypeId} {w : World} {A : Array Value} (h : (results fn tmps).run Try.prog w = (loadVar t ⟨b, 0, none⟩).run Try.prog w) (hB : Blk w b t' A) (hw : Whole t A.size) : (results fn tmps).run Try.prog w = .ok (.agg A) w :=
  h.trans (run_loadVar_blk hB hw)

set_option maxHeartbeats 2000000 in
set_option maxRecDepth 100000 in
theorem bad_any (g : Gr) (h0 : -4611686018427387904 ≤ g.pc) (h1 : g.pc ≤ 4611686018427387904) (k : Int) (w : World) : Calls Try.prog 17 #[g.val, .int .i64 k] w fun e w' => e = .returned ({ g with pc := g.pc + 1, cd := k } : Gr).val ∧ Below w.heap.size w w' := by
  obtain ⟨g', hg'⟩ : ∃ g' : Gr, g' = { g with pc := g.pc + 1, cd := k } := ⟨_, rfl⟩
  have hA : (g.arr.setIfInBounds 8 (.int .i64 (g.pc + 1))).setIfInBounds 17 (.int .i64 k) = g'.arr := by rw [hg']; rfl
  have h8 : g.arr[8]? = some (.int .i64 g.pc) := rfl
  have h17 : g.arr[17]? = some (.int .i64 g.cd) := rfl
  have hs := g'.size
  have hs2 := g'.one
  rw [← hg']
  unfold Gr.val
  have e1 : wrap64 (g.pc + 1) = g.pc + 1 := IntWalk.wrap64_in _ (by omega)
  generalize g.pc = pc at *
  generalize g.cd = cd at *
  generalize hga : g.arr = A at *
  generalize hgb : g'.arr = A' at *
  clear hg'
  obtain ⟨W, hW⟩ : ∃ W, W = (w.alloc (.cells A 30)).alloc (.cells zG 30) := ⟨_, rfl⟩
  have hb : Below w.heap.size w W := by rw [hW]; exact ((Below.refl _ _).alloc (Nat.le_refl _) _).alloc (by simp) _
  have hB0 : Blk W w.heap.size 30 A := by rw [hW]; exact (Blk.new w 30 A).alloc _
  have hB1 : Blk W (w.heap.size + 1) 30 zG := by rw [hW]; have := Blk.new (w.alloc (.cells A 30)) 30 zG; simpa using this
  have c8 := (hB0.cell 8).trans h8
  have c17 := (hB0.cell 17).trans h17
  have f8 := hB0.frozen 8
  have f17 := hB0.frozen 17
  have hB2 := (hB0.set_ 8 (.int .i64 (pc + 1))).set_ 17 (.int .i64 k)
  rw [hA] at hB2
  have hB3 := (hB1.far (p := ⟨w.heap.size, 8, none⟩) (by simp) (.int .i64 (pc + 1))).far (p := ⟨w.heap.size, 17, none⟩) (by simp) (.int .i64 k)
  have hb2 := (hb.setCell (p := ⟨w.heap.size, 8, none⟩) (Nat.le_refl _) (.int .i64 (pc + 1))).setCell (p := ⟨w.heap.size, 17, none⟩) (Nat.le_refl _) (.int .i64 k)
  have hf3 : zG.size = A'.size := hs.symm
  have hw3 : Whole 30 A'.size := by rw [hs]; exact whole30
  go_enter Try.func17, Try.ntmps17
  go_upto_region 1 with (fail)
  rw [← hW]
  clear hW
  go_wp2_with (first
    | (refine wpList_load_blk hB2 hw3 rfl _ rfl rfl ?_)
    | (refine wpList_store_blk hB3 hw3 hf3 hs2 rfl _ _ rfl rfl rfl ?_; intro w3 hB4 hC4))
  refine bodyPost_ret (res_load (b := w.heap.size + 1) (t := 30) ?_ hB4 hw3) rfl ⟨rfl, ?_⟩
  · simp [results, Try.results17, Act.put, go_sem]
  · have := hb2.size
    exact hb2.trans (hC4.below (by simp) this)
end Go.Proofs
end
