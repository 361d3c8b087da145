import Derived.Test.YtllohclpaggfbaaNumD
import Derived.RangeFuncFrom
import Derived.Outline
namespace Go.Proofs
open Go.RowKit Go.Shelf
set_option linter.unusedVariables false
attribute [local go_sem] Oper.semAt_some

def atL (s n : Int) : Int := if (((allL s).length : Nat) : Int) = 0 then 0 else n % ((allL s).length : Nat)
theorem cell_of_box_l {W : World} {B : Nat} {v : Value} {t : TypeId} (h : W.heap[B]? = some (.cells #[v] t (0, 0))) : W.cell? ⟨B, 0, none⟩ = some v ∧ W.frozen? ⟨B, 0, none⟩ = false := by
  constructor <;> simp [World.cell?, World.frozen?, h]
theorem cell_new_l (W : World) (v : Value) (t : TypeId) : (W.alloc (.cells #[v] t)).cell? ⟨W.heap.size, 0, none⟩ = some v ∧ (W.alloc (.cells #[v] t)).frozen? ⟨W.heap.size, 0, none⟩ = false :=
  cell_of_box_l (World.alloc_heap_new W _)
theorem cell_alloc_l {W : World} {a : Addr} {v : Value} (o : Obj) (h : W.cell? a = some v) : (W.alloc o).cell? a = some v := cell_kept h (World.grownBy_alloc W o none) (fun r e => by cases e)
theorem frozen_alloc_l {W : World} {a : Addr} {v : Value} (o : Obj) (h : W.cell? a = some v) (hf : W.frozen? a = false) : (W.alloc o).frozen? a = false := (frozen_kept h (World.grownBy_alloc W o none) (fun r e => by cases e)).trans hf
theorem cellK_b {n Bn : Nat} (h : Bn < n) (W : World) (l : Nat) (o o' : Obj) (hl : n ≤ l) (_ : W.heap[l]? = some o) (_ : o.isCells = false) (_ : o.isWalk = false) : (W.putObj l o').cell? ⟨Bn, 0, none⟩ = W.cell? ⟨Bn, 0, none⟩ :=
  World.cell?_of_block (w := W) (World.putObj_heap_other (by simp; omega))
/-- A cell holds v, and may be written. -/
def Held (W : World) (b : Nat) (v : Value) : Prop := W.cell? ⟨b, 0, none⟩ = some v ∧ W.frozen? ⟨b, 0, none⟩ = false
theorem Held.new (W : World) (v : Value) (t : TypeId) : Held (W.alloc (.cells #[v] t)) W.heap.size v := cell_new_l W v t
theorem Held.alloc {W : World} {b : Nat} {v : Value} (h : Held W b v) (o : Obj) : Held (W.alloc o) b v := ⟨cell_alloc_l o h.1, frozen_alloc_l o h.1 h.2⟩
theorem Held.kept {A B : World} {b : Nat} {v : Value} {row : Option Nat} (h : Held A b v) (hg : A.grownBy B row) (hr : ∀ r, row = some r → ∃ o : Obj, A.heap[r]? = some o ∧ o.isCells = false) : Held B b v := ⟨cell_kept h.1 hg hr, (frozen_kept h.1 hg hr).trans h.2⟩
theorem Held.set {W : World} {b : Nat} {v : Value} (h : Held W b v) (u : Value) : Held (W.setCell ⟨b, 0, none⟩ u) b u := ⟨World.cell?_setCell_same' _ _ _ (by rw [h.1]; rfl), by rw [World.frozen?_setCell]; exact h.2⟩
theorem Held.other {W : World} {b c : Nat} {v : Value} (h : Held W b v) (u : Value) (hne : b ≠ c) : Held (W.setCell ⟨c, 0, none⟩ u) b v := ⟨(World.cell?_of_block (w := W) (Below.heap_setCell W ⟨c, 0, none⟩ u b hne)).trans h.1, by rw [World.frozen?_setCell]; exact h.2⟩
theorem atL_0 (s n : Int) : 0 ≤ atL s n := by
  unfold atL; split
  · omega
  · exact Int.emod_nonneg _ ‹_›
theorem atL_lt (s n : Int) (h : (allL s).length ≠ 0) : (atL s n).toNat < (allL s).length := by
  have h0 := atL_0 s n
  have : atL s n < ((allL s).length : Nat) := by
    unfold atL; rw [if_neg (by omega)]; exact Int.emod_lt_of_pos _ (by omega)
  omega
theorem atL_8 (s n : Int) (h : (allL s).length ≤ 8) : atL s n ≤ 8 := by
  by_cases e : (allL s).length = 0
  · unfold atL; rw [if_pos (by omega)]; omega
  · have := atL_lt s n e; omega
def nthV (s n : Int) : Int := (allL s)[(atL s n).toNat]?.getD 0
def nthB (s n : Int) : Bool := !(allL s).isEmpty

theorem all_stops (n : Nat) (hn : 1 ≤ n) (Bn : Nat) (s : Int) (s0 : 0 ≤ s) (s1 : s < 256) (w : World) (hBn : Bn < w.heap.size) (hc : w.cell? ⟨Bn, 0, none⟩ = some (.int .u8 s)) :
    SeqStopsK Fence.wide n Try.prog 38 #[.pointer (some ⟨Bn, 0, none⟩)] (fun x : Int => #[Value.int .i64 x]) (fun A B => B.cell? ⟨Bn, 0, none⟩ = A.cell? ⟨Bn, 0, none⟩) (fun ys => ys = allL s) (fun pre => pre <+: allL s) 8 w := fun l J Jx W hW _ _ hY h0 =>
  all1_in n hn l Bn s s0 s1 J Jx hY W ((hW.cell (p := ⟨Bn, 0, none⟩) hBn).trans hc) h0

theorem len_allL (s : Int) : (allL s).length ≤ 8 := by rw [← upL_8]; exact upL_len s 8

set_option maxRecDepth 100000 in
set_option maxHeartbeats 2000000 in
theorem nth_any (s n : Int) (s0 : 0 ≤ s) (s1 : s < 256) (w : World) :
    Calls Try.prog 26 #[.int .u8 s, .int .i64 n] w fun e W' => e = .returned (.tuple #[.int .i64 (nthV s n), .bool (nthB s n)]) ∧ Below w.heap.size w W' := by
  refine (callsIn_wide (n := 3)).1 ?_
  refine callsIn_of_wp_marks Try.func26 rfl trivial ?_ rfl
  have hl8 := len_allL s
  simp only [Try.ntmps26, List.size_toArray, List.length_cons, List.length_nil, Nat.reduceAdd, Nat.reduceSub, Array.replicate_succ, Array.replicate_zero, List.push_toArray, List.append_toArray, List.nil_append, List.cons_append]
  obtain ⟨k, hk⟩ : ∃ k, k = atL s n := ⟨_, rfl⟩
  have k0 : 0 ≤ k := hk ▸ atL_0 s n
  have k8 : k ≤ 8 := hk ▸ atL_8 s n hl8
  have hR := fun w => round_any n ((allL s).length : Nat) (by omega) (by omega) w
  rw [show (if (((allL s).length : Nat) : Int) = 0 then 0 else n % ((allL s).length : Nat)) = k from hk.symm] at hR
  have HK := Lib.hid hk
  clear hk
  gi_wp2_with (first
    | (refine ⟨trivial, ?_⟩; gi_at_call 24; refine (callsIn_wide.2 (count_any s s0 s1 _)).mono ?_; rintro e w' ⟨rfl, rfl⟩)
    | (refine ⟨trivial, ?_⟩; gi_at_call 37; refine (callsIn_wide.2 (hR _)).mono ?_; rintro e w' ⟨rfl, rfl⟩)
    | (refine ⟨trivial, ?_⟩; gi_at_call 28; refine (callsIn_wide.2 (all_any s _)).mono ?_; rintro e w' ⟨rfl, rfl⟩))
  have hB0 : Below w.heap.size w ((((w.alloc (.cells #[.int .i64 0] 3)).alloc (.cells #[.bool false] 4)).alloc (.cells #[.int .i64 k] 3)).alloc (.cells #[.int .u8 s] 5)) := ((((Below.refl _ w).alloc (Nat.le_refl _) _).alloc (by simp) _).alloc (by simp; omega) _).alloc (by simp; omega) _
  have c0 := Held.new w (.int .i64 0) 3
  have c1 := Held.new (w.alloc (.cells #[.int .i64 0] 3)) (.bool false) 4
  have c2 := Held.new ((w.alloc (.cells #[.int .i64 0] 3)).alloc (.cells #[.bool false] 4)) (.int .i64 k) 3
  have c3 := Held.new (((w.alloc (.cells #[.int .i64 0] 3)).alloc (.cells #[.bool false] 4)).alloc (.cells #[.int .i64 k] 3)) (.int .u8 s) 5
  simp only [World.size_alloc] at c1 c2 c3
  refine wpIn_rangeFunc_ownF rfl (by omega) (gf := 38) (lb := #[.pointer (some ⟨w.heap.size + 1 + 1 + 1, 0, none⟩)]) rfl trivial (enters_of Try.func38 (by kernel_rfl) rfl)
    (all_stops (3 - 1) (by omega) (w.heap.size + 1 + 1 + 1) s s0 s1 _ (by simp) c3.1) (fun h h' => h'.trans h) (cellK_b (by simp)) (Below.refl _ _) (fun _ => rfl)
    (fun pre W => ((pre.length : Int) ≤ k ∧ Held W w.heap.size (.int .i64 0) ∧ Held W (w.heap.size + 1) (.bool false) ∧ Held W (w.heap.size + 1 + 1) (.int .i64 (k - (pre.length : Int)))) ∧ Below w.heap.size w W)
    (fun c pre W => (c = .ret ∧ (∃ (x : Int) (q : List Int), pre = q ++ [x] ∧ (q.length : Int) = k ∧ Held W w.heap.size (.int .i64 x)) ∧ Held W (w.heap.size + 1) (.bool true)) ∧ Below w.heap.size w W)
    (OwnFrom.and (Own.from (fun s A B row hs hg hr => ⟨hs.1, hs.2.1.kept hg hr, hs.2.2.1.kept hg hr, hs.2.2.2.kept hg hr⟩) _) (ownFrom_below (Nat.le_refl _) (by simp; omega)))
    (fun c => OwnFrom.and (Own.from (fun s A B row hs hg hr => by obtain ⟨h1, ⟨x, q, h2, h3, h4⟩, h5⟩ := hs; exact ⟨h1, ⟨x, q, h2, h3, h4.kept hg hr⟩, h5.kept hg hr⟩) _) (ownFrom_below (Nat.le_refl _) (by simp; omega)))
    ⟨⟨by simpa using k0, ((c0.alloc _).alloc _).alloc _, (c1.alloc _).alloc _, by simpa using c2.alloc _⟩, hB0⟩
    (fun x => { tmps := #[.int .u8 s, .int .i64 n, undef, undef, .pointer (some ⟨w.heap.size, 0, none⟩), .pointer (some ⟨w.heap.size + 1, 0, none⟩), .pointer (some ⟨w.heap.size + 1 + 1, 0, none⟩), .int .i64 x, .int .i64 n, .int .u8 s, .int .i64 ((allL s).length : Nat), .int .i64 k, .int .u8 s, .func (.func 38) #[] #[.pointer (some ⟨w.heap.size + 1 + 1 + 1, 0, none⟩)], .int .i64 x, undef, undef, undef, undef, undef], defers := [] }) ?assign ?body ?done ?stop
  case assign =>
    intro l x W K hK
    gi_wp2
    exact hK
  case body =>
    rintro l pre x W ⟨⟨hlen, h0, h1, h2⟩, hB⟩ _
    have a0 := h0.1
    have a1 := h1.1
    have a2 := h2.1
    have f0 := h0.2
    have f1 := h1.2
    have f2 := h2.2
    by_cases hz : k - (pre.length : Int) = 0
    · rw [hz] at a2
      gi_wp2
      exact ⟨(KeepsOthers.setCell _ _ _).trans (KeepsOthers.setCell _ _ _), ⟨rfl, ⟨x, pre, rfl, by omega, (h0.set _).other _ (by omega)⟩, (h1.other _ (by omega)).set _⟩, (hB.setCell (p := ⟨w.heap.size, 0, none⟩) (Nat.le_refl _) _).setCell (p := ⟨w.heap.size + 1, 0, none⟩) (by simp) _⟩
    · have hz' : (k - (pre.length : Int) == 0) = false := by simpa using hz
      gi_wp2
      exact ⟨KeepsOthers.setCell _ _ _, World.cell?_of_block (w := W) (Below.heap_setCell W ⟨w.heap.size + 1 + 1, 0, none⟩ _ _ (by simp)), ⟨by simp; omega, h0.other _ (by omega), h1.other _ (by omega), by rw [show k - ((pre ++ [x]).length : Int) = k - (pre.length : Int) - 1 by simp; omega]; exact h2.set _⟩, hB.setCell (p := ⟨w.heap.size + 1 + 1, 0, none⟩) (by simp; omega) _⟩
  case done =>
    rintro D ys W hD rfl ⟨⟨hlen, h0, h1, h2⟩, hB⟩ hK
    have a0 := h0.1
    have a1 := h1.1
    have f0 := h0.2
    have f1 := h1.2
    have hnil : allL s = [] := by
      have := HK.out
      rcases Nat.eq_zero_or_pos (allL s).length with e | e
      · exact List.eq_nil_of_length_eq_zero e
      · have := atL_lt s n (by omega); omega
    gi_wp2
    have g0 := (h0.set (.int .i64 0)).other (.bool false) (c := w.heap.size + 1) (by omega)
    have g1 := (h1.other (.int .i64 0) (c := w.heap.size) (by omega)).set (.bool false)
    have hK' := ((KeepsOthers.setCell W ⟨w.heap.size, 0, none⟩ (.int .i64 0)).trans (KeepsOthers.setCell _ ⟨w.heap.size + 1, 0, none⟩ (.bool false))).same D _ hK rfl
    refine ⟨by simp, .inl ⟨_, _, rfl, run_takeDeferred hK', ?_⟩⟩
    have q0 := (g0.kept (grownBy_putObj' _ D (.deferred none)) (fun r e => by cases e; exact ⟨_, hK', rfl⟩)).1
    have q1 := (g1.kept (grownBy_putObj' _ D (.deferred none)) (fun r e => by cases e; exact ⟨_, hK', rfl⟩)).1
    refine ⟨.tuple #[.int .i64 0, .bool false], ?_, by unfold nthV nthB; rw [hnil]; rfl, ((hB.setCell (p := ⟨w.heap.size, 0, none⟩) (Nat.le_refl _) _).setCell (p := ⟨w.heap.size + 1, 0, none⟩) (by simp) _).trans (belowK_b (w := w) (Nat.le_refl _) _ D _ _ (by simp at hD; omega) hK' rfl rfl)⟩
    simp [results, Try.f26, go_sem, q0, q1, Result.andThen]
  case stop =>
    rintro D c pre W hD hpre ⟨⟨rfl, ⟨x, q, rfl, hq, h0⟩, h1⟩, hB⟩ hK
    gi_wp2
    refine ⟨by simp, .inl ⟨_, _, rfl, run_takeDeferred hK, ?_⟩⟩
    have q0 := (h0.kept (grownBy_putObj' _ D (.deferred none)) (fun r e => by cases e; exact ⟨_, hK, rfl⟩)).1
    have q1 := (h1.kept (grownBy_putObj' _ D (.deferred none)) (fun r e => by cases e; exact ⟨_, hK, rfl⟩)).1
    have hv : nthV s n = x := by
      obtain ⟨r, hr⟩ := hpre
      unfold nthV
      rw [← HK.out, ← hq, ← hr, Int.toNat_natCast]
      simp
    have hb : nthB s n = true := by
      obtain ⟨r, hr⟩ := hpre
      unfold nthB
      rw [← hr]
      simp
    refine ⟨.tuple #[.int .i64 x, .bool true], ?_, by rw [hv, hb], hB.trans (belowK_b (w := w) (Nat.le_refl _) W D _ _ (by simp at hD; omega) hK rfl rfl)⟩
    simp [results, Try.f26, go_sem, q0, q1, Result.andThen]
end Go.Proofs
