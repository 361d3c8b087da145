import Derived.Test.YtgdjagbkpdndgaaGaJ
import Derived.Sort.QuietThIn
import Derived.Sort.BigQuietIn
namespace Go
open Go.RowKit
set_option linter.unusedVariables false

def noDefer (o : Oper) : Bool := match o.op with | .defer _ => false | _ => true
theorem noDefer_ne {o : Oper} (h : noDefer o = true) : ∀ c, o.op ≠ .defer c := fun c e => by
  unfold noDefer at h
  rw [e] at h
  cases h
section
variable {F : Fence} {n : Nat} {P : Program} {ops : Array Oper} {Q : Exit → Act → World → Prop}
/-- An operation that defers nothing goes in a round as anywhere. -/
theorem Oper.wpIn_round (l : Nat) (hro : F.round = none) {o : Oper} (hd : noDefer o = true) {a : Act} {w : World} {K K' : Act → World → Prop} (hK : ∀ a w, K a w → K' a w) (h : o.wpIn F n P a w K Q) : o.wpIn (F.inRound l) n P a w K' Q := by
  have h := Oper.wpIn_mono hK h
  unfold Oper.wpIn at *
  refine ⟨h.1, ?_⟩
  have h2 := h.2
  rw [hro, Oper.semAt_eq _ _ _ (noDefer_ne hd)] at h2
  rw [Oper.semAt_eq _ _ _ (noDefer_ne hd)]
  generalize (execOp a.eval o).run P w = r at *
  cases r with
  | ok x w' => cases x <;> exact h2
  | halt x w' => cases x <;> exact h2
theorem wpAnyIn_round (l : Nat) (hro : F.round = none) {md : Region.Mode} (hd : ∀ (i : Nat) (o : Oper), ops[i]? = some o → noDefer o = true) : ∀ (fuel : Nat) (listed : Array Bool) (a : Act) (w : World), wpAnyIn F n P md ops Q fuel listed a w → wpAnyIn (F.inRound l) n P md ops Q fuel listed a w := by
  intro fuel
  induction fuel with
  | zero => intro listed a w h; exact h
  | succ fuel ih =>
    intro listed a w h
    refine ⟨h.1, fun i hi => ?_⟩
    have h2 := h.2 i hi
    unfold wpOpIn at *
    split
    · rename_i ho
      simp only [ho] at h2
      exact ih _ _ _ h2
    · rename_i o ho
      simp only [ho] at h2
      split
      · rename_i hw
        simp only [hw, if_true] at h2
        exact Oper.wpIn_round l hro (hd i o ho) (fun a w h => ih _ a w h) h2
      · rename_i hw
        simp only [hw] at h2
        exact ⟨h2.1, ih _ _ _ h2.2⟩
/-- A region that draws its order, and only reads, in a round. -/
theorem wpIn_region_quiet_round {id : Nat} {a : Act} {w : World} {L : List Oper} (l : Nat) (hro : F.round = none) (hd : L.all noDefer = true) (hm : P.follows .mixedOrders = true) (hB : Region.lexB .any L.toArray = true)
    (h : wpQuietIn F n P L.toArray (fun w' => ∃ n, w' = w.drewN n) (fun a' => ∀ w', (∃ n, w' = w.drewN n) → Q .normal a' w') L a) : (Code.region id L.toArray true).wpIn (F.inRound l) n P Q a w := by
  simp only [Region.lexB, Bool.and_eq_true] at hB
  refine wpIn_region_any hm (wpAnyIn_round l hro (fun i o ho => ?_) _ _ _ _ (wpAnyIn_of_quiet (C := fun w' => ∃ n, w' = w.drewN n) (Q := fun a' => ∀ w', (∃ n, w' = w.drewN n) → Q .normal a' w') hro (fun _ w' hw' h => h w' hw') _ _ _ _ ⟨1, rfl⟩ ?_))
  · exact List.all_eq_true.1 hd o (List.mem_of_getElem? (by simpa using ho))
  · have := wpAnyQIn_lex (F := F) (n := n) (C := fun w' => ∃ n, w' = w.drewN n) (md := .any) hB.1 L 0 (Array.replicate L.toArray.size false) a (by simp) (by simpa using hB.2) h
    simpa using this
end
theorem KeepsOthers.drewN (W : World) (n : Nat) : KeepsOthers W (W.drewN n) := ⟨Nat.le_refl _, fun _ _ h _ => h⟩
end Go
namespace Go.Proofs
open Go.RowKit Go.Shelf
set_option linter.unusedVariables false
attribute [local go_sem] Oper.semAt_some

theorem below_drewN {k : Nat} {a b : World} (h : Below k a b) (n : Nat) : Below k a (b.drewN n) := ⟨h.os, h.tape, h.output, h.size, h.block⟩
theorem blk_keep {A B : World} {b : Nat} {t : TypeId} {cs : Array Value} {row : Option Nat} (h : Blk A b t cs) (hg : A.grownBy B row) (hr : ∀ r, row = some r → ∃ o : Obj, A.heap[r]? = some o ∧ o.isCells = false) : Blk B b t cs :=
  h.same (hg.block b h.lt (fun e => by
    obtain ⟨o, ho, hc⟩ := hr b e.symm
    unfold Blk at h
    rw [h] at ho; cases ho; cases hc))
/-- The receiver r has the nodes N (none, if it is nil); T: its blocks. -/
def Rowed (w : World) (r : Value) (T : List Nat) (N : List (Nat × Int)) : Prop :=
  (r = .pointer none ∧ T = [] ∧ N = []) ∨ ∃ q, r = .pointer (some ⟨q, 0, none⟩) ∧ QAt w q N ∧ T = q :: bl N
theorem QAt.rowed {w : World} {q : Nat} {N : List (Nat × Int)} (H : QAt w q N) : Rowed w (.pointer (some ⟨q, 0, none⟩)) (q :: bl N) N := .inr ⟨q, rfl, H, rfl⟩
theorem rowed_nil (w : World) : Rowed w (.pointer none) [] [] := .inl ⟨rfl, rfl, rfl⟩
section
variable {w w' : World} {r : Value} {T : List Nat} {N : List (Nat × Int)}
theorem Rowed.val (H : Rowed w r T N) : ∃ p, r = .pointer p := by
  rcases H with ⟨rfl, _⟩ | ⟨q, rfl, _⟩
  · exact ⟨_, rfl⟩
  · exact ⟨_, rfl⟩
theorem Rowed.quiet (H : Rowed w r T N) (hc : Chg [] w w') : Rowed w' r T N := by
  rcases H with h | ⟨q, h1, h2, h3⟩
  · exact .inl h
  · exact .inr ⟨q, h1, h2.quiet hc, h3⟩
theorem Rowed.lt (H : Rowed w r T N) : ∀ k ∈ T, k < w.heap.size := by
  rcases H with ⟨_, rfl, _⟩ | ⟨q, _, h2, rfl⟩
  · intro k hk; cases hk
  · exact h2.lt
/-- The number of a node. -/
theorem Rowed.cell (H : Rowed w r T N) (p : Nd N) : p.1.1 ∈ T ∧ w.cell? ⟨p.1.1, 0, none⟩ = some (.int .i64 p.1.2) := by
  obtain ⟨⟨b, x⟩, hp⟩ := p
  rcases H with ⟨_, _, rfl⟩ | ⟨q, _, h2, rfl⟩
  · cases hp
  · obtain ⟨i, hi⟩ := List.mem_iff_getElem?.1 hp
    exact ⟨List.mem_cons_of_mem _ (nb_mem (nb_at hi)), (h2.node i b x hi).cell 0⟩
/-- The maker of the iterator. -/
theorem make_nodes (n : Nat) (p : Option Addr) (w : World) :
    CallsIn Fence.wide n Try.prog 32 #[.pointer p] w fun e w' => e = .returned (.func (.func 41) #[] #[.pointer (some ⟨w.heap.size, 0, none⟩)]) ∧ w' = w.alloc (.cells #[.pointer p] 25) := by
  refine callsIn_of_wp Try.func32 rfl trivial ?_ rfl
  simp only [Try.ntmps32, List.size_toArray, List.length_cons, List.length_nil, Nat.reduceAdd, Nat.reduceSub, Array.replicate_succ, Array.replicate_zero, List.push_toArray, List.append_toArray, List.nil_append, List.cons_append]
  gi_wp2
  go_ret
  exact ⟨rfl, rfl⟩
set_option maxRecDepth 100000 in
set_option maxHeartbeats 3200000 in
theorem nodes1_nil (n : Nat) (hn : 1 ≤ n) (l B : Nat) (W : World) (hV : W.cell? ⟨B, 0, none⟩ = some (.pointer none)) :
    CallsIn Fence.wide n Try.prog 41 #[.func (.yield l) #[] #[], .pointer (some ⟨B, 0, none⟩)] W fun e W' => (∃ v, e = .returned v) ∧ W' = W := by
  refine callsIn_of_wp Try.func41 rfl trivial ?_ rfl
  simp only [Try.ntmps41, List.size_toArray, List.length_cons, List.length_nil, Nat.reduceAdd, Nat.reduceSub, Array.replicate_succ, Array.replicate_zero, List.push_toArray, List.append_toArray, List.nil_append, List.cons_append]
  gi_wp2
  refine bodyPost_ret (results_none rfl _ _ _) rfl ?_
  exact ⟨⟨_, rfl⟩, rfl⟩
theorem nodes_stops (n : Nat) (hn : 1 ≤ n) (B : Nat) (hB : B < w.heap.size) (hV : w.cell? ⟨B, 0, none⟩ = some r) (H : Rowed w r T N) :
    SeqStopsK Fence.wide n Try.prog 41 #[.pointer (some ⟨B, 0, none⟩)] (Nd.encs (N := N)) (KeepL (B :: T)) (fun ys => ys = N.attach) (fun pre => pre <+: N.attach) (N.length + 1) w := fun l J Jx W hW hJ _ hY h0 => by
  have hlt := H.lt
  have hK : KeepL (B :: T) w W := ⟨hW.size, fun k hk => hW.block k (by
    rcases List.mem_cons.1 hk with rfl | hk
    · exact hB
    · exact hlt k hk)⟩
  rcases H with ⟨rfl, rfl, rfl⟩ | ⟨q, rfl, hQ, rfl⟩
  · refine (nodes1_nil n hn l B W ((hK.cell (p := ⟨B, 0, none⟩) (by simp)).trans hV)).mono ?_
    rintro e W' ⟨h1, rfl⟩
    exact ⟨h1, .inl ⟨[], rfl, h0⟩⟩
  · exact nodes1_in n hn l B q N w hV hQ J Jx W hK hY h0
end
/-- None of the first i is asked for. -/
def NoF (f : Int → Bool) (R : List Int) (i : Nat) : Prop := ∀ j, j < i → ∀ y, R[j]? = some y → f y = false
/-- Where the first one stands that is asked for. -/
def Found (f : Int → Bool) (N : List (Nat × Int)) (e : Ending) : Prop :=
  (∃ k b x, N[k]? = some (b, x) ∧ f x = true ∧ NoF f (nu N) k ∧ e = .returned (.pointer (some ⟨b, 0, none⟩))) ∨ (NoF f (nu N) N.length ∧ e = .returned (.pointer none))
theorem Found.yes {f : Int → Bool} {N : List (Nat × Int)} {pre : List (Nd N)} {x : Nd N} (hp : pre ++ [x] <+: N.attach) (h : ∀ y ∈ pre, f y.1.2 = false) (hx : f x.1.2 = true) : Found f N (.returned (.pointer (some ⟨x.1.1, 0, none⟩))) := by
  have h1 : N.attach[pre.length]? = some x := by
    obtain ⟨r, hr⟩ := hp
    rw [← hr]
    simp
  refine .inl ⟨pre.length, x.1.1, x.1.2, at_att h1, hx, fun j hj y hy => ?_, rfl⟩
  obtain ⟨z, hz⟩ : ∃ z, pre[j]? = some z := ⟨_, List.getElem?_eq_getElem hj⟩
  have h2 : N.attach[j]? = some z := by
    obtain ⟨r, hr⟩ := hp
    rw [← hr, List.append_assoc, List.getElem?_append_left hj]
    exact hz
  have := nu_at (at_att h2)
  rw [this] at hy
  rw [← Option.some.inj hy]
  exact h z (List.mem_of_getElem? hz)
theorem Found.no {f : Int → Bool} {N : List (Nat × Int)} (h : ∀ y ∈ N.attach, f y.1.2 = false) : Found f N (.returned (.pointer none)) := by
  refine .inr ⟨fun j hj y hy => ?_, rfl⟩
  obtain ⟨p, hp⟩ : ∃ p, N[j]? = some p := ⟨_, List.getElem?_eq_getElem hj⟩
  have := nu_at hp
  rw [this] at hy
  rw [← Option.some.inj hy]
  exact h _ (List.mem_of_getElem? (att_at hp))
end Go.Proofs
