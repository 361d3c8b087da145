import Derived.Test.YtoddffpbbnicpaaRuO
namespace Go.Proofs
open Go.RowKit
set_option linter.unusedVariables false

/-- Two seats are told apart. -/
theorem eql_seat (a c : Int) (b d : Bool) (W : World) : (binOp .eql 59 (.agg #[.int .i64 a, .bool b]) (.agg #[.int .i64 c, .bool d])).run Try.prog W = .ok (.bool (a == c && b == d)) W := by
  have h1 : Try.prog.underlying 59 = some (.struct (Try.prog.fieldsOf 59)) := by kernel_rfl
  have h2 : Try.prog.stoodInHeld 59 = false := by kernel_rfl
  rw [run_eql_struct, run_equalIn_agg (ht := h1) (hp := h2)]
  simp [go_sem, Try.underlying59, Op.eqFields, Try.underlying3, Try.underlying4]
  by_cases e1 : a = c <;> by_cases e2 : b = d <;> simp [e1, e2]
theorem seat_is {N : Option Int} {x : Int} : (N.getD 0 == x && N.isSome == true) = decide (N = some x) := by
  cases N with
  | none => simp
  | some y => simp [Bool.beq_eq_decide_eq]
def remN (N : Option Int) (x : Int) : Option Int := if N = some x then none else N
def remL (L : List Int) (N : Option Int) (x : Int) : List Int := if N = some x then L else L.eraseIdx (findAt x L)
def hasQ (L : List Int) (N : Option Int) (x : Int) : Bool := decide (N = some x) || decide (findAt x L < L.length)
section
variable {w : World} {q g h M : Nat} {L : List Int} {N : Option Int}
theorem remove_any (H : RingAt w g h M L) (hL : L.length ≤ 8192) (x : Int) :
    Calls Try.prog 45 #[.pointer (some ⟨g, 0, none⟩), .int .i64 x] w fun e w' => e = .returned (.bool (decide (findAt x L < L.length))) ∧ RingAt w' g h M (L.eraseIdx (findAt x L)) ∧ Chg [g, h] w w' := by
  by_cases hx : findAt x L < L.length
  · rw [decide_eq_true hx]
    exact remove_yes H x hx
  · rw [decide_eq_false hx, eraseIdx_none hx]
    exact (remove_no hL H.has x hx).mono fun e w' ⟨h1, h2⟩ => ⟨h1, H.quiet h2, h2.any⟩
theorem qremove_any (H : QueueAt w q g h M L N) (x : Int) :
    Calls Try.prog 17 #[.pointer (some ⟨q, 0, none⟩), .int .i64 x] w fun e w' => e = .returned (.bool (hasQ L N x)) ∧ QueueAt w' q g h M (remL L N x) (remN N x) ∧ Chg [q, g, h] w w' := by
  have hn := none_any H
  have hl := leave_any H
  obtain ⟨c0, c1, c2⟩ := H.cells w (Chg.refl _ _)
  have hs := H.small
  have hr := remove_any H.ring (by omega) x
  have HH := Lib.hid H
  have heq := fun W => eql_seat (N.getD 0) x N.isSome true W
  simp only [seat_is] at heq
  unfold hasQ remL remN
  obtain ⟨a, ha⟩ : ∃ a, a = N.getD 0 := ⟨_, rfl⟩
  obtain ⟨b, hb⟩ : ∃ b, b = N.isSome := ⟨_, rfl⟩
  rw [← ha] at c1
  rw [← hb] at c2
  simp only [← ha, ← hb] at heq hl
  clear ha hb H hs
  by_cases hx : N = some x
  · simp only [hx, decide_true, if_true, Bool.true_or] at heq ⊢
    clear hr hx
    go_enter Try.func17, Try.ntmps17
    go_wp2_with (first
      | (go_at_call 37; refine hn.mono ?_; rintro e w' ⟨rfl, rfl⟩)
      | (go_at_call 43; refine hl.mono ?_; rintro e w1 ⟨rfl, hq, hc⟩; have HQ := Lib.hid hq; have HC := Lib.hid hc; clear hq hc))
    go_ret
    exact ⟨rfl, HQ.out, HC.out⟩
  · simp only [hx, decide_false, if_false, Bool.false_or] at heq ⊢
    obtain ⟨d, hd⟩ : ∃ d, d = decide (findAt x L < L.length) := ⟨_, rfl⟩
    obtain ⟨K, hK⟩ : ∃ K, K = L.eraseIdx (findAt x L) := ⟨_, rfl⟩
    rw [← hd, ← hK] at hr ⊢
    clear hl hx hd hK
    go_enter Try.func17, Try.ntmps17
    go_wp2_with (first
      | (go_at_call 37; refine hn.mono ?_; rintro e w' ⟨rfl, rfl⟩)
      | (go_at_call 45; refine hr.mono ?_; rintro e w1 ⟨rfl, hq, hc⟩; have HQ := Lib.hid (HH.out.turn hq hc); clear hq hc))
    go_ret
    exact ⟨rfl, HQ.out⟩
theorem qhas_any (H : QueueAt w q g h M L N) (x : Int) :
    Calls Try.prog 19 #[.pointer (some ⟨q, 0, none⟩), .int .i64 x] w fun e w' => e = .returned (.bool (hasQ L N x)) ∧ Chg [] w w' := by
  have hn := none_any H
  obtain ⟨c0, c1, c2⟩ := H.cells w (Chg.refl _ _)
  have hs := H.small
  have hr := has_of (by omega) H.ring.has x
  have heq := fun W => eql_seat (N.getD 0) x N.isSome true W
  simp only [seat_is] at heq
  unfold hasQ
  obtain ⟨a, ha⟩ : ∃ a, a = N.getD 0 := ⟨_, rfl⟩
  obtain ⟨b, hb⟩ : ∃ b, b = N.isSome := ⟨_, rfl⟩
  rw [← ha] at c1
  rw [← hb] at c2
  simp only [← ha, ← hb] at heq
  clear ha hb H hs
  by_cases hx : N = some x
  · simp only [hx, decide_true, Bool.true_or] at heq ⊢
    clear hr hx
    go_enter Try.func19, Try.ntmps19
    go_wp2_with (first
      | (go_at_call 37; refine hn.mono ?_; rintro e w' ⟨rfl, rfl⟩))
    go_ret
    exact ⟨rfl, Chg.refl _ _⟩
  · simp only [hx, decide_false, Bool.false_or] at heq ⊢
    obtain ⟨d, hd⟩ : ∃ d, d = decide (findAt x L < L.length) := ⟨_, rfl⟩
    rw [← hd] at hr ⊢
    clear hx hd
    go_enter Try.func19, Try.ntmps19
    go_wp2_with (first
      | (go_at_call 37; refine hn.mono ?_; rintro e w' ⟨rfl, rfl⟩)
      | (go_at_call 48; refine hr.mono ?_; rintro e w1 ⟨rfl, hc⟩; have HC := Lib.hid hc; clear hc))
    go_ret
    exact ⟨rfl, HC.out⟩
theorem qnext_any (H : QueueAt w q g h M L N) :
    Calls Try.prog 36 #[.pointer (some ⟨q, 0, none⟩)] w fun e w' => e = .returned (.tuple #[.int .i64 (N.getD 0), .bool N.isSome]) ∧ ∃ k, w' = w.drewN k := by
  obtain ⟨c0, c1, c2⟩ := H.cells w (Chg.refl _ _)
  clear H
  go_enter Try.func36, Try.ntmps36
  go_wp2
  go_quiet (fail)
  go_wp2
  go_ret2
  exact ⟨rfl, _, rfl⟩
/-- All: next, if there is one, then the ring. -/
def allQ (L : List Int) (N : Option Int) : List Int := N.toList ++ L
theorem qlen_any (H : QueueAt w q g h M L N) :
    Calls Try.prog 20 #[.pointer (some ⟨q, 0, none⟩)] w fun e w' => e = .returned (.int .i64 (allQ L N).length) ∧ w = w' := by
  have hn := none_any H
  obtain ⟨c0, c1, c2⟩ := H.cells w (Chg.refl _ _)
  have hs := H.small
  have hl := len_any H.ring
  unfold allQ
  obtain ⟨m, hm⟩ : ∃ m, m = L.length := ⟨_, rfl⟩
  rw [List.length_append, ← hm]
  rw [← hm] at hl hs
  clear H hm
  cases N with
  | none =>
    simp only [Option.isSome_none, Option.toList_none, List.length_nil, Nat.zero_add] at c2 ⊢
    go_enter Try.func20, Try.ntmps20
    go_wp2_with (first
      | (go_at_call 37; refine hn.mono ?_; rintro e w' ⟨rfl, rfl⟩)
      | (go_at_call 49; refine hl.mono ?_; rintro e w' ⟨rfl, rfl⟩))
    go_ret
    exact ⟨rfl, rfl⟩
  | some y =>
    simp only [Option.isSome_some, Option.toList_some, List.length_cons, List.length_nil, Nat.zero_add] at c2 ⊢
    go_enter Try.func20, Try.ntmps20
    go_wp2_with (first
      | (go_at_call 37; refine hn.mono ?_; rintro e w' ⟨rfl, rfl⟩)
      | (go_at_call 49; refine hl.mono ?_; rintro e w' ⟨rfl, rfl⟩))
    go_ret
    exact ⟨by rw [Nat.add_comm]; rfl, rfl⟩
set_option maxHeartbeats 800000 in
theorem qall_any (H : QueueAt w q g h M L N) :
    Calls Try.prog 24 #[.pointer (some ⟨q, 0, none⟩)] w fun e w' => ∃ v, e = .returned v ∧ Fresh w w' v (allQ L N) := by
  have hn := none_any H
  obtain ⟨c0, c1, c2⟩ := H.cells w (Chg.refl _ _)
  have hs := H.small
  have ha := fun W (hW : Chg [] w W) => all_of (by omega) (H.ring.has.quiet hW)
  have k0 : ∀ o : Obj, (w.alloc o).cell? ⟨q, 0, none⟩ = _ := fun o => (World.cell?_alloc_past o _ _ H.1.lt).trans c0
  unfold allQ
  clear H
  cases N with
  | none =>
    simp only [Option.isSome_none, Option.toList_none, Option.getD_none] at c1 c2 ⊢
    go_enter Try.func24, Try.ntmps24
    go_wp2_with (first
      | (go_at_call 37; refine hn.mono ?_; rintro e w' ⟨rfl, rfl⟩)
      | (go_at_call 52; refine (ha _ (Chg.refl _ _)).mono ?_; rintro e w1 ⟨v, rfl, hf⟩; obtain ⟨A1, c1', rfl, _⟩ := hf.1.val; have HF := Lib.hid hf; clear hf)
      | (go_at_call 51; go_loud (refine (concat_any (l1 := []) (l2 := L) (Blk.new _ _ _) (Rd.nil _) (HF.out.rd.quiet ((Chg.refl _ _).alloc _)) (by simp; omega)).mono ?_; rintro e w2 ⟨v2, rfl, hf⟩; have HF2 := Lib.hid hf; clear hf)))
    go_ret
    exact ⟨_, rfl, HF2.out.before (HF.out.2.2.alloc _)⟩
  | some y =>
    simp only [Option.isSome_some, Option.toList_some, Option.getD_some] at c1 c2 ⊢
    go_enter Try.func24, Try.ntmps24
    go_wp2_with (first
      | (go_at_call 37; refine hn.mono ?_; rintro e w' ⟨rfl, rfl⟩)
      | (go_at_call 52; refine (ha _ ((Chg.refl _ _).alloc _)).mono ?_; rintro e w1 ⟨v, rfl, hf⟩; obtain ⟨A1, c1', rfl, _⟩ := hf.1.val; have HF := Lib.hid hf; clear hf)
      | (go_at_call 51; go_loud (refine (concat_any (l1 := [y]) (l2 := L) (Blk.new _ _ _) ((Rd.one w y).quiet (HF.out.2.2.alloc _)) (HF.out.rd.quiet ((Chg.refl _ _).alloc _)) (by simp; omega)).mono ?_; rintro e w2 ⟨v2, rfl, hf⟩; have HF2 := Lib.hid hf; clear hf)))
    go_ret
    exact ⟨_, rfl, HF2.out.before (((Chg.refl [] w).alloc _).then (HF.out.2.2.alloc _))⟩
end
end Go.Proofs
