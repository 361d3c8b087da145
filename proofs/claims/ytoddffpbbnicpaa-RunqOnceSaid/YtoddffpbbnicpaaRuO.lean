import Derived.Test.YtoddffpbbnicpaaRuN
namespace Go.Proofs
open Go.RowKit
set_option linter.unusedVariables false

theorem results_tmp4 {fn : Func} {t u v x : Tmp} (h : fn.results = #[.tmp t, .tmp u, .tmp v, .tmp x]) (tmps : Array Value) (P : Program) (w : World) :
    (results fn tmps).run P w = .ok (.tuple #[tmps.getD t undef, tmps.getD u undef, tmps.getD v undef, tmps.getD x undef]) w := by
  simp [results, h]
/-- What a call on the queue leaves, and which numbers it tells, in a slice of its own. -/
def QTurn (q g h M : Nat) (v : Value) (S L' : List Int) (N' : Option Int) (w w' : World) : Prop :=
  QueueAt w' q g h M L' N' ∧ Row w' 3 1 v S.length (ints S) ∧ (∀ k ∈ foot v, w.heap.size ≤ k) ∧ Chg [q, g, h] w w'
section
variable {w w1 w2 : World} {q g h M : Nat} {v : Value} {S L L' : List Int} {N N' : Option Int}
theorem QTurn.rd (H : QTurn q g h M v S L' N' w w1) : Rd w1 v S := Rd.of_row H.2.1
theorem QTurn.far (H : QTurn q g h M v S L' N' w w1) (H0 : QueueAt w q g h M L N) : ∀ k ∈ foot v, k ∉ [q, g, h] := fun k hk hm => by
  have := H.2.2.1 k hk
  have := H0.lt k hm
  omega
theorem QTurn.later (H : QTurn q g h M v S L' N' w w1) (hc : Chg [] w1 w2) : QTurn q g h M v S L' N' w w2 :=
  ⟨H.1.quiet hc, H.2.1.chg hc (fun _ _ h => by cases h), H.2.2.1, H.2.2.2.then hc⟩
theorem QTurn.none_ (H : QueueAt w1 q g h M L' N') (hc : Chg [q, g, h] w w1) : QTurn q g h M (.slice none 0 0) [] L' N' w w1 :=
  ⟨H, Row.nil _ _ _, (fun k hk => by cases hk), hc⟩
theorem Row.firstRd {w : World} {bk m cap n : Nat} {L : List Int} (h : Row w 3 1 (.slice (some ⟨bk, 0, none⟩) m cap) m (ints L)) (hm : m = L.length) (h0 : 0 < n) (hn : n ≤ m) (hc : m ≤ cap) : Rd w (.slice (some ⟨bk, 0, none⟩) n n) (L.take n) := by
  subst hm
  have := (Rd.of_row h).cut (i := 0) (j := n) (k := n) (by omega) (by omega) (Nat.le_refl _) (by omega) (by simp) h0 bk 0 rfl
  simpa using this
theorem Row.restRd {w : World} {bk m cap n : Nat} {L : List Int} (h : Row w 3 1 (.slice (some ⟨bk, 0, none⟩) m cap) m (ints L)) (hm : m = L.length) (hn : n < m) (hc : m ≤ cap) : Rd w (.slice (some ⟨bk, n, none⟩) (m - n) (cap - n)) (L.drop n) := by
  subst hm
  have := (Rd.of_row h).rest (k := n) (by omega) (by omega)
  simpa using this
theorem halfN_bd (n : Nat) (h : 2 ≤ n) : 1 ≤ halfN n ∧ halfN n < n := by unfold halfN; omega
theorem put_room (H : QueueAt w q g h M L N) (x : Int) (hm : L.length < M) :
    Calls Try.prog 14 #[.pointer (some ⟨q, 0, none⟩), .int .i64 x] w fun e w' => ∃ v, e = .returned v ∧ QTurn q g h M v (putS M L x) (putL M L x) N w w' := by
  unfold putS putL
  rw [if_pos hm, if_pos hm]
  have c0 := (H.cells w (Chg.refl _ _)).1
  have hn := none_any H
  have hp := push_room H.ring x hm
  have HH := Lib.hid H
  clear H
  go_enter Try.func14, Try.ntmps14
  go_wp2_with (first
    | (go_at_call 37; refine hn.mono ?_; rintro e w' ⟨rfl, rfl⟩)
    | (go_at_call 38; refine hp.mono ?_; rintro e w1 ⟨rfl, hR, hc⟩; have HT := Lib.hid (HH.out.turn hR hc); clear hR hc))
  go_ret
  exact ⟨_, rfl, QTurn.none_ HT.out.1 HT.out.2⟩
set_option maxHeartbeats 1600000 in
theorem put_full (H : QueueAt w q g h M L N) (x : Int) (hm : ¬ L.length < M) :
    Calls Try.prog 14 #[.pointer (some ⟨q, 0, none⟩), .int .i64 x] w fun e w' => ∃ v, e = .returned v ∧ QTurn q g h M v (putS M L x) (putL M L x) N w w' := by
  unfold putS putL
  rw [if_neg hm, if_neg hm]
  have c0 := (H.cells w (Chg.refl _ _)).1
  have hn := none_any H
  have hp := push_full H.ring x hm
  have hs := H.small
  have h2 := H.2.2
  have he := fun W (hW : Chg [] w W) => empty_any (H.quiet hW)
  have HLT := Lib.hid H.lt
  obtain ⟨m, hml⟩ : ∃ m, m = L.length := ⟨_, rfl⟩
  obtain ⟨b1, b2⟩ := halfN_bd L.length (by omega)
  obtain ⟨n, hnn⟩ : ∃ n, n = halfN L.length := ⟨_, rfl⟩
  have hhf := half_any L.length (by omega)
  rw [← hnn, ← hml] at hhf
  rw [← hnn]
  rw [← hnn, ← hml] at b2
  rw [← hnn] at b1
  have HM := Lib.hid hml
  have HS := Lib.hid hs
  clear H hml hs hm hnn h2
  go_enter Try.func14, Try.ntmps14
  go_wp2_with (first
    | (go_at_call 37; refine hn.mono ?_; rintro e w' ⟨rfl, rfl⟩)
    | (go_at_call 38; refine hp.mono ?_; rintro e w1 ⟨rfl, hc⟩; have HC1 := Lib.hid hc; clear hc)
    | (go_at_call 39; refine (he _ HC1.out).mono ?_; rintro e w2 ⟨v, rfl, hq, hr, hf, hc⟩; rw [← HM.out] at hr; obtain ⟨bk, cap, rfl, _, hcap, _, _, _⟩ := hr.form (by omega); have HQ2 := Lib.hid hq; have HR2 := Lib.hid hr; have HF2 := Lib.hid hf; have HC2 := Lib.hid hc; have hnc : n ≠ cap := (by omega); have i0 : (0 : Int) ≤ (n : Int) := (by omega); have i1 : (n : Int) ≤ (cap : Int) := (by omega); have i2 : (n : Int) ≤ (m : Int) := (by omega); have FR := Lib.hid (hr.firstRd HM.out b1 (by omega) hcap); have RR := Lib.hid (hr.restRd HM.out b2 hcap); clear hq hr hf hc)
    | (go_at_call 40; refine (hhf _).mono ?_; rintro e w' ⟨rfl, rfl⟩)
    | (at_builtin; refine wpList_append_full _ rfl _ _ rfl (by rfl) (by rfl) (FR.out.quiet ((Chg.refl _ _).alloc _)) b1 (Rd.one _ x) (by simp) (by rw [List.length_take]; have := HM.out; have := HS.out.1; simp only [List.length_cons, List.length_nil]; omega) ?_; intro v3 w3 hf3; have HF3 := Lib.hid hf3; clear hf3)
    | (go_at_call 41; refine (stay_any (Q := []) (R := L.drop n) (HQ2.out.quiet (((Chg.refl _ _).alloc _).then HF3.out.2.2)) (RR.out.quiet (((Chg.refl _ _).alloc _).then HF3.out.2.2)) (fun k hk hm => by have a1 := HF2.out bk (by simp [foot_some]); have a2 := HLT.out k hm; have a3 := HC1.out.size; simp [foot_some] at hk; omega) (by rw [List.length_drop, List.length_nil]; have := HS.out.2.1; omega)).mono ?_; rintro e w4 ⟨rfl, hq4, hc4⟩; have HQ4 := Lib.hid hq4; have HC4 := Lib.hid hc4; clear hq4 hc4))
  go_ret
  have z1 := HC1.out.size
  have z2 := HC2.out.size
  have e3 : Chg [] w2 w3 := ((Chg.refl _ _).alloc _).then HF3.out.2.2
  have hfar : ∀ k ∈ foot v3, w2.heap.size ≤ k := fun k hk => by have := HF3.out.2.1 k hk; simp at this; omega
  refine ⟨_, rfl, by simpa using HQ4.out, HF3.out.1.chg HC4.out (fun k hk hm => ?_), fun k hk => ?_, ?_⟩
  · have := hfar k hk; have := HLT.out k hm; omega
  · have := hfar k hk; omega
  · exact (((Chg.any HC1.out).trans HC2.out (fun k hk => .inl hk)).then e3).trans HC4.out (fun k hk => .inl hk)
theorem put_any (H : QueueAt w q g h M L N) (x : Int) :
    Calls Try.prog 14 #[.pointer (some ⟨q, 0, none⟩), .int .i64 x] w fun e w' => ∃ v, e = .returned v ∧ QTurn q g h M v (putS M L x) (putL M L x) N w w' := by
  by_cases hm : L.length < M
  · exact put_room H x hm
  · exact put_full H x hm
/-- putWasNext: who is next goes into the ring, and nobody is next. -/
theorem kick_any (H : QueueAt w q g h M L N) :
    Calls Try.prog 42 #[.pointer (some ⟨q, 0, none⟩)] w fun e w' => ∃ v, e = .returned v ∧ QTurn q g h M v (kickS M L N) (kickL M L N) none w w' := by
  have hl := leave_any H
  cases N with
  | none =>
    simp only [Option.getD_none, Option.isSome_none] at hl
    clear H
    go_enter Try.func42, Try.ntmps42
    go_wp2_with (go_at_call 43; refine hl.mono ?_; rintro e w1 ⟨rfl, hq, hc⟩; have HQ := Lib.hid hq; have HC := Lib.hid hc; clear hq hc)
    go_ret
    exact ⟨_, rfl, QTurn.none_ HQ.out HC.out⟩
  | some y =>
    simp only [Option.getD_some, Option.isSome_some] at hl
    clear H
    go_enter Try.func42, Try.ntmps42
    go_wp2_with (first
      | (go_at_call 43; refine hl.mono ?_; rintro e w1 ⟨rfl, hq, hc⟩; have HQ := Lib.hid hq; have HC := Lib.hid hc; clear hq hc)
      | (go_at_call 14; refine (put_any HQ.out y).mono ?_; rintro e w2 ⟨v, rfl, hT⟩; have HT := Lib.hid hT; clear hT))
    go_ret
    obtain ⟨t1, t2, t3, t4⟩ := HT.out
    exact ⟨_, rfl, t1, t2, (fun k hk => Nat.le_trans HC.out.size (t3 k hk)), HC.out.trans t4 (fun k hk => .inl hk)⟩
theorem putNext_any (H : QueueAt w q g h M L N) (x : Int) :
    Calls Try.prog 15 #[.pointer (some ⟨q, 0, none⟩), .int .i64 x] w fun e w' => ∃ v, e = .returned v ∧ QTurn q g h M v (kickS M L N) (kickL M L N) (some x) w w' := by
  have hn := none_any H
  have hk := kick_any H
  have HLT := Lib.hid H.lt
  clear H
  go_enter Try.func15, Try.ntmps15
  go_wp2_with (first
    | (go_at_call 37; refine hn.mono ?_; rintro e w' ⟨rfl, rfl⟩)
    | (go_at_call 42; refine hk.mono ?_; rintro e w1 ⟨v, rfl, hT⟩; have c1 := (hT.1.cells _ (Chg.refl _ _)).2.1; have c2 := (hT.1.cells _ (Chg.refl _ _)).2.2; have f1 := hT.1.1.frozen 1; have f2 := hT.1.1.frozen 2; have HT := Lib.hid hT; clear hT))
  go_ret
  obtain ⟨t1, t2, t3, t4⟩ := HT.out
  have e1 : Chg [q, g, h] w1 ((w1.setCell ⟨q, 1, none⟩ (.int .i64 x)).setCell ⟨q, 2, none⟩ (.bool true)) := ((Chg.refl _ _).setCell (p := ⟨q, 1, none⟩) (.inl (by simp)) _).setCell (p := ⟨q, 2, none⟩) (.inl (by simp)) _
  exact ⟨_, rfl, t1.store (some x), t2.chg e1 (fun k hk hm => by have := t3 k hk; have := HLT.out k hm; omega), t3, t4.trans e1 (fun k hk => .inl hk)⟩
theorem pop_any {L : List Int} (H : RingAt w g h M L) :
    Calls Try.prog 44 #[.pointer (some ⟨g, 0, none⟩)] w fun e w' => e = .returned (.tuple #[.int .i64 (L.headD 0), .bool (decide (L ≠ []))]) ∧ RingAt w' g h M L.tail ∧ Chg [g, h] w w' := by
  cases L with
  | nil => exact (pop_none H).mono fun e w' ⟨h1, h2⟩ => ⟨h1, by subst h2; exact H, by subst h2; exact Chg.refl _ _⟩
  | cons y L => exact (pop_some H).mono fun e w' ⟨h1, h2, h3⟩ => ⟨by simpa using h1, h2, h3⟩
/-- Take, where next inherits. -/
theorem take_next {y : Int} (H : QueueAt w q g h M L (some y)) :
    Calls Try.prog 16 #[.pointer (some ⟨q, 0, none⟩), .bool true] w fun e w' => e = .returned (.tuple #[.int .i64 y, .bool true, .slice none 0 0, .bool true]) ∧ QueueAt w' q g h M L none ∧ Chg [q, g, h] w w' := by
  have hn := none_any H
  have hl := leave_any H
  have c2 := (H.cells w (Chg.refl _ _)).2.2
  simp only [Option.getD_some, Option.isSome_some] at hl c2
  clear H
  go_enter Try.func16, Try.ntmps16
  go_wp2_with (first
    | (go_at_call 37; refine hn.mono ?_; rintro e w' ⟨rfl, rfl⟩)
    | (go_at_call 43; refine hl.mono ?_; rintro e w1 ⟨rfl, hq, hc⟩; have HQ := Lib.hid hq; have HC := Lib.hid hc; clear hq hc))
  (try simp only [Exit.inBlock, Exit.then])
  refine bodyPost_ret (results_tmp4 rfl _ _ _) rfl ?_
  exact ⟨rfl, HQ.out, HC.out⟩
/-- Take, where the ring's first one comes. -/
theorem take_ring (H : QueueAt w q g h M L N) (b : Bool) (hb : (b && N.isSome) = false) :
    Calls Try.prog 16 #[.pointer (some ⟨q, 0, none⟩), .bool b] w fun e w' => ∃ v, e = .returned (.tuple #[.int .i64 ((kickL M L N).headD 0), .bool false, v, .bool (decide (kickL M L N ≠ []))]) ∧ QTurn q g h M v (kickS M L N) (kickL M L N).tail none w w' := by
  have hn := none_any H
  have hk := kick_any H
  have c2 := (H.cells w (Chg.refl _ _)).2.2
  have HLT := Lib.hid H.lt
  obtain ⟨s, hs⟩ : ∃ s, s = N.isSome := ⟨_, rfl⟩
  rw [← hs] at c2 hb
  obtain ⟨K, hK⟩ : ∃ K, K = kickL M L N := ⟨_, rfl⟩
  rw [← hK] at hk ⊢
  have HP := Lib.hid (fun w1 (h1 : QueueAt w1 q g h M K none) => pop_any h1.ring)
  obtain ⟨a, ha⟩ : ∃ a, a = K.headD 0 := ⟨_, rfl⟩
  obtain ⟨d, hd⟩ : ∃ d, d = decide (K ≠ []) := ⟨_, rfl⟩
  rw [← ha, ← hd] at HP ⊢
  clear H hs hK ha hd
  have fin : ∀ w1 w2 v, QTurn q g h M v (kickS M L N) K none w w1 → RingAt w2 g h M K.tail → Chg [g, h] w1 w2 → QTurn q g h M v (kickS M L N) K.tail none w w2 := fun w1 w2 v ⟨t1, t2, t3, t4⟩ hR hc => by
    have := t1.turn hR hc
    exact ⟨this.1, t2.chg hc (fun k hk hm => by have := t3 k hk; have := HLT.out k (List.mem_cons_of_mem _ hm); omega), t3, t4.trans this.2 (fun k hk => .inl hk)⟩
  have FIN := Lib.hid fin
  clear fin
  cases b with
  | false =>
    clear hb
    go_enter Try.func16, Try.ntmps16
    go_wp2_with (first
      | (go_at_call 37; refine hn.mono ?_; rintro e w' ⟨rfl, rfl⟩)
      | (go_at_call 42; refine hk.mono ?_; rintro e w1 ⟨v, rfl, hT⟩; have c3 := (hT.1.cells _ (Chg.refl _ _)).1; have HT := Lib.hid hT; clear hT)
      | (go_at_call 44; refine (HP.out _ HT.out.1).mono ?_; rintro e w2 ⟨rfl, hR, hc⟩; have HR := Lib.hid hR; have HC := Lib.hid hc; clear hR hc))
    (try simp only [Exit.inBlock, Exit.then])
    refine bodyPost_ret (results_tmp4 rfl _ _ _) rfl ?_
    exact ⟨_, rfl, FIN.out _ _ _ HT.out HR.out HC.out⟩
  | true =>
    rw [Bool.true_and] at hb
    subst hb
    go_enter Try.func16, Try.ntmps16
    go_wp2_with (first
      | (go_at_call 37; refine hn.mono ?_; rintro e w' ⟨rfl, rfl⟩)
      | (go_at_call 42; refine hk.mono ?_; rintro e w1 ⟨v, rfl, hT⟩; have c3 := (hT.1.cells _ (Chg.refl _ _)).1; have HT := Lib.hid hT; clear hT)
      | (go_at_call 44; refine (HP.out _ HT.out.1).mono ?_; rintro e w2 ⟨rfl, hR, hc⟩; have HR := Lib.hid hR; have HC := Lib.hid hc; clear hR hc))
    (try simp only [Exit.inBlock, Exit.then])
    refine bodyPost_ret (results_tmp4 rfl _ _ _) rfl ?_
    exact ⟨_, rfl, FIN.out _ _ _ HT.out HR.out HC.out⟩
end
end Go.Proofs
