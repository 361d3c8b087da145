import Derived.Test.YtfbelpbfmafjdaaCc
import Derived.Sort.QuietThIn
import Derived.Sort.BigQuietIn
import Derived.Laws.StructEq
namespace Go
open Go.RowKit
set_option linter.unusedVariables false

def noDefer (o : Oper) : Bool := match o.op with | .defer _ => false | _ => true
theorem noDefer_ne {o : Oper} (h : noDefer o = true) : ∀ c, o.op ≠ .defer c := fun c e => by
  unfold noDefer at h
  rw [e] at h
  cases h
section
variable {F : Fence} {n : Nat} {P : Program} {ops : Array Oper} {Q : Exit → Act → World → Prop}
/-- An operation that defers nothing goes in a round as anywhere. -/
theorem Oper.wpIn_round (l : Nat) (hro : F.round = none) {o : Oper} (hd : noDefer o = true) {a : Act} {w : World} {K K' : Act → World → Prop} (hK : ∀ a w, K a w → K' a w) (h : o.wpIn F n P a w K Q) : o.wpIn (F.inRound l) n P a w K' Q := by
  have h := Oper.wpIn_mono hK h
  unfold Oper.wpIn at *
  refine ⟨h.1, ?_⟩
  have h2 := h.2
  rw [hro, Oper.semAt_eq _ _ _ (noDefer_ne hd)] at h2
  rw [Oper.semAt_eq _ _ _ (noDefer_ne hd)]
  generalize (execOp a.eval o).run P w = r at *
  cases r with
  | ok x w' => cases x <;> exact h2
  | halt x w' => cases x <;> exact h2
theorem wpAnyIn_round (l : Nat) (hro : F.round = none) {md : Region.Mode} (hd : ∀ (i : Nat) (o : Oper), ops[i]? = some o → noDefer o = true) : ∀ (fuel : Nat) (listed : Array Bool) (a : Act) (w : World), wpAnyIn F n P md ops Q fuel listed a w → wpAnyIn (F.inRound l) n P md ops Q fuel listed a w := by
  intro fuel
  induction fuel with
  | zero => intro listed a w h; exact h
  | succ fuel ih =>
    intro listed a w h
    refine ⟨h.1, fun i hi => ?_⟩
    have h2 := h.2 i hi
    unfold wpOpIn at *
    split
    · rename_i ho
      simp only [ho] at h2
      exact ih _ _ _ h2
    · rename_i o ho
      simp only [ho] at h2
      split
      · rename_i hw
        simp only [hw, if_true] at h2
        exact Oper.wpIn_round l hro (hd i o ho) (fun a w h => ih _ a w h) h2
      · rename_i hw
        simp only [hw] at h2
        exact ⟨h2.1, ih _ _ _ h2.2⟩
/-- A region that draws its order, and only reads, in a round. -/
theorem wpIn_region_quiet_round {id : Nat} {a : Act} {w : World} {L : List Oper} (l : Nat) (hro : F.round = none) (hd : L.all noDefer = true) (hm : P.follows .mixedOrders = true) (hB : Region.lexB .any L.toArray = true)
    (h : wpQuietIn F n P L.toArray (fun w' => ∃ n, w' = w.drewN n) (fun a' => ∀ w', (∃ n, w' = w.drewN n) → Q .normal a' w') L a) : (Code.region id L.toArray true).wpIn (F.inRound l) n P Q a w := by
  simp only [Region.lexB, Bool.and_eq_true] at hB
  refine wpIn_region_any hm (wpAnyIn_round l hro (fun i o ho => ?_) _ _ _ _ (wpAnyIn_of_quiet (C := fun w' => ∃ n, w' = w.drewN n) (Q := fun a' => ∀ w', (∃ n, w' = w.drewN n) → Q .normal a' w') hro (fun _ w' hw' h => h w' hw') _ _ _ _ ⟨1, rfl⟩ ?_))
  · exact List.all_eq_true.1 hd o (List.mem_of_getElem? (by simpa using ho))
  · have := wpAnyQIn_lex (F := F) (n := n) (C := fun w' => ∃ n, w' = w.drewN n) (md := .any) hB.1 L 0 (Array.replicate L.toArray.size false) a (by simp) (by simpa using hB.2) h
    simpa using this
end
theorem KeepsOthers.drewN (W : World) (n : Nat) : KeepsOthers W (W.drewN n) := ⟨Nat.le_refl _, fun _ _ h _ => h⟩
end Go
namespace Go.Proofs
theorem GoesAt.drewN {t : Tab Int} {Wb W : World} {T : Int} {b14 b15 b16 a : Nat} {Ds : List Nat} {pre : List Nam} (H : GoesAt t Wb T b14 b15 b16 Ds a pre W) (n : Nat) : GoesAt t Wb T b14 b15 b16 Ds a pre (W.drewN n) :=
  ⟨H.pre_, H.at_, H.n, H.turn, H.mks, ⟨H.below.os, H.below.tape, H.below.output, H.below.size, H.below.block⟩⟩
/-- Two refs are told apart. -/
theorem neq_ref (a b c d : Int) (W : World) : (binOp .neq 36 (.agg #[.int .i64 a, .int .u64 b]) (.agg #[.int .i64 c, .int .u64 d])).run Try.prog W = .ok (.bool (!(a == c && b == d))) W := by
  have h1 : Try.prog.underlying 36 = some (.struct (Try.prog.fieldsOf 36)) := by kernel_rfl
  have h2 : Try.prog.stoodInHeld 36 = false := by kernel_rfl
  rw [run_neq_struct, run_equalIn_agg (ht := h1) (hp := h2)]
  simp [go_sem, Try.underlying36, Op.eqFields, Try.underlying3, Try.underlying22]
  by_cases e1 : a = c <;> by_cases e2 : b = d <;> simp [e1, e2]
theorem ref_yes {a b c d : Int} (h : a = c ∧ b = d) (W : World) : (binOp .neq 36 (.agg #[.int .i64 a, .int .u64 b]) (.agg #[.int .i64 c, .int .u64 d])).run Try.prog W = .ok (.bool false) W := by
  rw [neq_ref]; simp [h.1, h.2]
theorem ref_no {a b c d : Int} (h : ¬ (a = c ∧ b = d)) (W : World) : (binOp .neq 36 (.agg #[.int .i64 a, .int .u64 b]) (.agg #[.int .i64 c, .int .u64 d])).run Try.prog W = .ok (.bool true) W := by
  rw [neq_ref]
  have : (a == c && b == d) = false := by
    rw [Bool.and_eq_false_iff]
    by_cases e : a = c
    · right; simpa using fun e2 => h ⟨e, e2⟩
    · left; simpa using e
  rw [this]; rfl
open Go.RowKit in
theorem below_between {D : Nat} {a b c : World} (h : Below D a b) (k : Below D a c) (hz : b.heap.size ≤ c.heap.size) : Below D b c :=
  ⟨k.os.trans h.os.symm, k.tape.trans h.tape.symm, k.output.trans h.output.symm, hz, fun i hi => (k.block i hi).trans (h.block i hi).symm⟩
open Go.RowKit in
/-- The turn's box is laid anew, and one more is stored into it. -/
theorem Turn.next {t : Tab Int} {Wb V : World} {T : Int} {b14 b15 b16 a C D : Nat} {Ds : List Nat} {pre : List Nam} (T0 : 0 ≤ T) (T1 : T < 2) (H : GoesAt t Wb T b14 b15 b16 Ds a pre V) (hC : ∀ D ∈ Ds, D < C) (hBC : Wb.heap.size ≤ C) (hD : C ≤ D) (hK : V.heap[D]? = some (.deferred (some []))) :
    Turn Wb (T + 1) V.heap.size (D :: Ds) (V.alloc (.cells #[.int .i64 (T + 1)] 3)) :=
  ⟨by omega, by omega, H.below.size, Blk.new V 3 _, (H.mks.cons hC hBC hD hK).others (KeepsOthers.alloc _ _), H.below.alloc H.below.size _⟩
theorem Turn.drewN {Wb W : World} {T : Int} {b14 : Nat} {Ds : List Nat} (H : Turn Wb T b14 Ds W) (n : Nat) : Turn Wb T b14 Ds (W.drewN n) := by
  obtain ⟨h1, h2, h3, h4, h5, h6⟩ := H
  exact ⟨h1, h2, h3, h4, h5, ⟨h6.os, h6.tape, h6.output, h6.size, h6.block⟩⟩
theorem drew_cell {W : World} (n : Nat) (v : Value) (t : TypeId) : ((W.drewN n).alloc (.cells #[v] t)).cell? { block := W.heap.size, off := 0 } = some v :=
  (Blk.new (W.drewN n) t #[v]).cell 0
theorem drew_frozen {W : World} (n : Nat) (v : Value) (t : TypeId) : ((W.drewN n).alloc (.cells #[v] t)).frozen? { block := W.heap.size, off := 0 } = false :=
  (Blk.new (W.drewN n) t #[v]).frozen 0
theorem drew_set {W : World} (n : Nat) (v x : Value) (t : TypeId) : ((W.drewN n).alloc (.cells #[v] t)).setCell { block := W.heap.size, off := 0 } x = (W.drewN n).alloc (.cells #[x] t) := by
  have h : ((W.drewN n).alloc (.cells #[v] t)).setCell { block := (W.drewN n).heap.size, off := 0 } x = (W.drewN n).alloc (.cells #[x] t) := by
    rw [World.setCell_alloc_at _ _ _ _ _ rfl]; rfl
  exact h
theorem now_all {t : Tab Int} {q N : Nat} {a : Nam} (hq : q < N) (h1 : nowL t (q + 1) = nowL t q ++ [a]) (h2 : nowL t N = nowL t q) : False := by
  have := (nowL_pre t (q + 1) N (by omega)).length_le
  rw [h1, h2, List.length_append] at this
  simp only [List.length_cons] at this
  omega
end Go.Proofs
