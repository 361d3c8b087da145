import Derived.Test.YtocdkomjdcccoaaCoG
import Derived.Test.YtocdkomjdcccoaaReV
namespace Go.Proofs
open Go.RowKit
set_option linter.unusedVariables false

/-! ### What may turn without a list of refills turning -/
/-- Each of these blocks holds no refills, or is not there yet. -/
def Off (w : World) (S : List Nat) : Prop := ∀ k ∈ S, k < w.heap.size → ∃ t cs, Blk w k t cs ∧ t ≠ 47
theorem Off.nil (w : World) : Off w [] := fun k hk => by cases hk
theorem Off.cons {w : World} {k : Nat} {t : TypeId} {cs : Array Value} {S : List Nat} (h : Blk w k t cs) (ht : t ≠ 47) (hS : Off w S) : Off w (k :: S) := fun j hj hl => by
  rcases List.mem_cons.1 hj with rfl | hj
  · exact ⟨t, cs, h, ht⟩
  · exact hS j hj hl
theorem Off.append {w : World} {S T : List Nat} (hS : Off w S) (hT : Off w T) : Off w (S ++ T) := fun j hj hl => (List.mem_append.1 hj).elim (fun h => hS j h hl) (fun h => hT j h hl)
theorem Off.row {w : World} {e : TypeId} {size n : Nat} {v : Value} {xs : List Value} (h : Row w e size v n xs) (he : e ≠ 47) : Off w (foot v) := fun j hj hl => by
  rcases h.2 with ⟨rfl, _⟩ | ⟨g, cap, cur, rfl, hg, _⟩
  · cases hj
  · simp [foot_some] at hj; subst hj; exact ⟨_, _, hg, he⟩
theorem Rd.off {w : World} {v : Value} {l : List Rf} (h : Rd w v l) {S : List Nat} (hS : Off w S) : ∀ k ∈ foot v, k ∉ S := fun k hk hm => by
  obtain ⟨t, cs, hB, ht⟩ := hS k hm (h.lt k hk)
  exact Rs.ty h hB (Ne.symm ht) hk
theorem Rd.keep {w w' : World} {v : Value} {l : List Rf} (h : Rd w v l) {S : List Nat} (hS : Off w S) (hc : Chg S w w') : Rd w' v l := h.chg hc (h.off hS)
theorem TabAt.off {w : World} {g : Nat} {S : List Nat} {t : Tab Cx} (h : TabAt w g S t) : Off w S := by
  obtain ⟨VS, VF, hB, hS, hF, rfl⟩ := h
  exact Off.cons hB (by decide) ((Off.row hS (by decide)).append (Off.row hF (by decide)))

/-! ### Contexts -/
abbrev Cx.v (x : Cx) : Value := .slice x.a x.m x.c
/-- Each context's refills read as its list. -/
def Good (w : World) (t : Tab Cx) : Prop := ∀ (k : Nat) (s : Spot Cx), t.spots[k]? = some s → Rd w s.thing.v s.thing.l
theorem Good.keep {w w' : World} {t : Tab Cx} (h : Good w t) {S : List Nat} (hS : Off w S) (hc : Chg S w w') : Good w' t := fun k s hs => (h k s hs).keep hS hc
theorem Good.quiet {w w' : World} {t : Tab Cx} (h : Good w t) (hc : Chg [] w w') : Good w' t := h.keep (Off.nil w) hc
theorem Good.nil (w : World) (a b c : Int) : Good w ⟨a, b, [], [], c⟩ := fun k s hs => by simp at hs
def CtxAt (w : World) (c : Nat) (S : List Nat) (t : Tab Cx) (most : Int) : Prop := ∃ g, Blk w c 52 #[.pointer (some ⟨g, 0, none⟩), .int .i64 most] ∧ TabAt w g S t ∧ Good w t ∧ t.WF
section
variable {w w' : World} {c : Nat} {S : List Nat} {t : Tab Cx} {most : Int}
theorem CtxAt.quiet (h : CtxAt w c S t most) (hc : Chg [] w w') : CtxAt w' c S t most := by
  obtain ⟨g, h1, h2, h3, h4⟩ := h
  exact ⟨g, h1.chg hc (by simp), h2.quiet hc, h3.quiet hc, h4⟩
theorem CtxAt.chg {S' : List Nat} (h : CtxAt w c S t most) (hc : Chg S' w w') (h1 : c ∉ S') (h2 : ∀ k ∈ S, k ∉ S') (h3 : Off w S') : CtxAt w' c S t most := by
  obtain ⟨g, k1, k2, k3, k4⟩ := h
  exact ⟨g, k1.chg hc h1, k2.chg hc h2, k3.keep h3 hc, k4⟩
theorem CtxAt.lt (h : CtxAt w c S t most) : ∀ k ∈ c :: S, k < w.heap.size := by
  obtain ⟨g, h1, h2, h3, h4⟩ := h
  intro k hk
  rcases List.mem_cons.1 hk with rfl | hk
  · exact h1.lt
  · exact h2.lt k hk
theorem CtxAt.off (h : CtxAt w c S t most) : Off w S := by obtain ⟨g, h1, h2, h3, h4⟩ := h; exact h2.off
theorem CtxAt.wf (h : CtxAt w c S t most) : t.WF := by obtain ⟨g, h1, h2, h3, h4⟩ := h; exact h4
theorem TabAt.not_ctx {g : Nat} {cs : Array Value} (h : TabAt w g S t) (hB : Blk w c 52 cs) : c ∉ S := by
  obtain ⟨VS, VF, hB', hS, hF, rfl⟩ := h
  simp only [List.mem_cons, List.mem_append, not_or]
  exact ⟨fun e => Blk.ty hB hB' (by decide) e, hS.ty hB (by decide), hF.ty hB (by decide)⟩
end
/-- What a call on contexts leaves. -/
def CtxTurns (c : Nat) (S : List Nat) (t' : Tab Cx) (most : Int) (w w' : World) : Prop := ∃ S', CtxAt w' c S' t' most ∧ (∀ k ∈ S', k ∈ S ∨ w.heap.size ≤ k) ∧ Chg S w w'
theorem CtxTurns.refl {c : Nat} {S : List Nat} {t : Tab Cx} {most : Int} {a b : World} (h : CtxAt a c S t most) (hc : Chg [] a b) : CtxTurns c S t most a b := ⟨S, h.quiet hc, fun k hk => .inl hk, hc.any⟩
theorem CtxTurns.later {c : Nat} {S : List Nat} {t : Tab Cx} {most : Int} {a b d : World} (h : CtxTurns c S t most a b) (hc : Chg [] b d) : CtxTurns c S t most a d := by
  obtain ⟨S', h1, h2, h3⟩ := h
  exact ⟨S', h1.quiet hc, h2, h3.then hc⟩
theorem CtxTurns.earlier {c : Nat} {S : List Nat} {t : Tab Cx} {most : Int} {a b d : World} (h : CtxTurns c S t most b d) (hc : Chg [] a b) : CtxTurns c S t most a d := by
  obtain ⟨S', h1, h2, h3⟩ := h
  exact ⟨S', h1, fun k hk => (h2 k hk).imp id (fun h => Nat.le_trans hc.size h), (Chg.any hc).trans h3 (fun k hk => .inl hk)⟩
/-- What a ref names; where it is stale, a context of which nothing is there. -/
def Tab.at_ (t : Tab Cx) (i q : Int) : Cx := match t.live i with | some s => if s.gen = q then s.thing else cx0 | none => cx0
theorem at_no {t : Tab Cx} {i q : Int} (h : t.has i q = false) : t.at_ i q = cx0 := by
  unfold Tab.at_
  unfold Tab.has at h
  cases hl : t.live i with
  | none => rfl
  | some s => rw [hl] at h; simp at h; simp [h]
theorem at_yes {t : Tab Cx} {i q : Int} {s : Spot Cx} (hl : t.live i = some s) (hq : s.gen = q) : t.at_ i q = s.thing := by
  unfold Tab.at_; rw [hl]; simp [hq]
theorem Good.at_ {w : World} {t : Tab Cx} (h : Good w t) (i q : Int) : Rd w (t.at_ i q).v (t.at_ i q).l := by
  cases hq : t.has i q with
  | false => rw [at_no hq]; exact Rd.nil w
  | true =>
    obtain ⟨s, hl, he⟩ := has_iff.1 hq
    rw [at_yes hl he]
    exact h _ s (live_iff.1 hl).2.1
/-- The error of a ref. -/
def staleE (t : Tab Cx) (i q : Int) : Int := if t.has i q then 0 else 11
theorem get_any {w : World} {g : Nat} {S : List Nat} {t : Tab Cx} (h : TabAt w g S t) (hw : t.WF) (i q : Int) (i0 : -9223372036854775808 ≤ i) (i1 : i ≤ 9223372036854775807) :
    Calls Try.prog 24 #[.pointer (some ⟨g, 0, none⟩), .agg #[.int .i64 i, .int .u64 q]] w fun e w' => e = .returned (.tuple #[(t.at_ i q).val, .int .i64 (staleE t i q)]) ∧ Chg [] w w' := by
  unfold staleE
  cases hq : t.has i q with
  | false => rw [at_no hq]; exact get_no_C h hw i q i0 i1 hq
  | true =>
    obtain ⟨s, hl, he⟩ := has_iff.1 hq
    rw [at_yes hl he]
    exact get_yes_C h hw hq hl
theorem none_any {w : World} {c : Nat} {S : List Nat} {t : Tab Cx} {most : Int} (h : CtxAt w c S t most) :
    Calls Try.prog 15 #[.pointer (some ⟨c, 0, none⟩)] w fun e w' => e = .returned (.bool false) ∧ Chg [] w w' := by
  obtain ⟨g, hB, _⟩ := h
  have c0 := hB.cell 0
  clear hB
  go_enter Try.func15, Try.ntmps15
  go_wp2
  go_ret
  exact ⟨rfl, Chg.refl _ _⟩
theorem none_nil (w : World) : Calls Try.prog 15 #[.pointer none] w fun e w' => e = .returned (.bool true) ∧ w = w' := by
  go_enter Try.func15, Try.ntmps15
  go_wp2
  go_ret
  exact ⟨rfl, rfl⟩
theorem places_any {w : World} {c g : Nat} {most : Int} (hB : Blk w c 52 #[.pointer (some ⟨g, 0, none⟩), .int .i64 most]) :
    Calls Try.prog 23 #[.pointer (some ⟨c, 0, none⟩)] w fun e w' => e = .returned (.pointer (some ⟨g, 0, none⟩)) ∧ w = w' := by
  have c0 := hB.cell 0
  clear hB
  go_enter Try.func23, Try.ntmps23
  go_wp2
  go_ret
  exact ⟨rfl, rfl⟩
theorem full_any {w : World} {c : Nat} {S : List Nat} {t : Tab Cx} {most : Int} (h : CtxAt w c S t most) :
    Calls Try.prog 18 #[.pointer (some ⟨c, 0, none⟩)] w fun e w' => e = .returned (.bool (t.frees == 0)) ∧ Chg [] w w' := by
  obtain ⟨g, hB, hT, hG, hW⟩ := h
  obtain ⟨f, hf⟩ : ∃ f, f = t.frees := ⟨_, rfl⟩
  have hfr := free_C hT hW
  rw [← hf] at hfr ⊢
  clear hf hT hG hW
  go_enter Try.func18, Try.ntmps18
  go_wp2_with (first
    | (go_at_call 23; refine (places_any hB).mono ?_; rintro e w' ⟨rfl, rfl⟩)
    | (go_at_call 34; refine hfr.mono ?_; rintro e w' ⟨rfl, nq, rfl⟩))
  go_ret
  exact ⟨rfl, (Chg.refl _ _).drewN _⟩
abbrev obRef (i q : Int) : Obj := .cells #[.int .i64 i, .int .u64 q] 30
abbrev obCx : Obj := .cells #[.int .u64 0, .int .u64 0, .slice none 0 0, .int .i64 0] 42
/-- What there is of a box for a context behind calls that turned nothing. -/
theorem cx_facts {w W w2 : World} {n : Nat} (hn : n = w.heap.size) (hW : Chg [] (w.alloc obCx) W) (hc : Chg [] W w2) :
    n < w2.heap.size ∧ w2.cell? ⟨n, 0, none⟩ = some (.int .u64 0) ∧ w2.cell? ⟨n, 1, none⟩ = some (.int .u64 0) ∧ w2.cell? ⟨n, 2, none⟩ = some (.slice none 0 0) ∧ w2.cell? ⟨n, 3, none⟩ = some (.int .i64 0) ∧ ∀ o, w2.frozen? ⟨n, o, none⟩ = false := by
  subst hn
  have hB := ((Blk.new w 42 #[.int .u64 0, .int .u64 0, .slice none 0 0, .int .i64 0]).chg hW (by simp)).chg hc (by simp)
  exact ⟨hB.lt, hB.cell 0, hB.cell 1, hB.cell 2, hB.cell 3, hB.frozen⟩
theorem ref_facts {w W w2 : World} {i q : Int} {n : Nat} (hn : n = w.heap.size) (hW : Chg [] (w.alloc (obRef i q)) W) (hc : Chg [] W w2) :
    n < w2.heap.size ∧ w2.cell? ⟨n, 0, none⟩ = some (.int .i64 i) ∧ w2.cell? ⟨n, 1, none⟩ = some (.int .u64 q) := by
  subst hn
  have hB := ((Blk.new w 30 #[.int .i64 i, .int .u64 q]).chg hW (by simp)).chg hc (by simp)
  exact ⟨hB.lt, hB.cell 0, hB.cell 1⟩
set_option maxHeartbeats 1600000 in
set_option maxRecDepth 100000 in
theorem at_any {w : World} {c : Nat} {S : List Nat} {t : Tab Cx} {most : Int} (h : CtxAt w c S t most) (i q : Int) (i0 : -9223372036854775808 ≤ i) (i1 : i ≤ 9223372036854775807) :
    Calls Try.prog 22 #[.pointer (some ⟨c, 0, none⟩), .agg #[.int .i64 i, .int .u64 q]] w fun e w' => e = .returned (t.at_ i q).val ∧ Chg [] w w' := by
  obtain ⟨g, hB, hT, hG, hW⟩ := h
  have HP := fun W (hW : Chg [] w W) => places_any (hB.chg hW (by simp))
  have HG := fun W (hc : Chg [] w W) => get_any (hT.quiet hc) hW i q i0 i1
  obtain ⟨x, hx⟩ : ∃ x, x = t.at_ i q := ⟨_, rfl⟩
  rw [← hx] at HG ⊢
  obtain ⟨e0, he⟩ : ∃ e0, e0 = staleE t i q := ⟨_, rfl⟩
  rw [← he] at HG
  have HP := Lib.hid HP
  have HG := Lib.hid HG
  clear hx he hT hG hW hB
  have hq2 : ¬ (w.heap.size + 1 + 1 = w.heap.size) := by omega
  have hq3 : ¬ (w.heap.size = w.heap.size + 1 + 1) := by omega
  go_enter Try.func22, Try.ntmps22
  go_wp2
  go_region_held3 (fun w' => w'.cell? ⟨w.heap.size, 0, none⟩ = some (.int .i64 i) ∧ w'.cell? ⟨w.heap.size, 1, none⟩ = some (.int .u64 q))
    (first | go_keep)
    (first
      | (go_at_call 23; refine (HP.out _ ((((Chg.refl _ _).alloc _).alloc _).drew)).mono ?_; rintro e w1 ⟨rfl, rfl⟩)
      | (go_at_call 23; refine (HP.out _ (((((Chg.refl _ _).alloc _).alloc _).alloc _).drew)).mono ?_; rintro e w1 ⟨rfl, rfl⟩)
      | (go_at_call 24; refine (HG.out _ ((((Chg.refl _ _).alloc _).alloc _).drew)).mono ?_; rintro e w2 ⟨rfl, hc⟩; obtain ⟨_, b0, b1⟩ := ref_facts (w := w) rfl (((Chg.refl [] _).alloc _).drew) hc; obtain ⟨hz, r0, r1, r2, r3, rf⟩ := cx_facts (w := w.alloc (obRef i q)) (n := w.heap.size + 1) (by simp) ((Chg.refl [] _).drew) hc; have hq4 : ¬ (w2.heap.size = w.heap.size) := (by omega); have hq5 : ¬ (w.heap.size = w2.heap.size) := (by omega); have HC := Lib.hid ((((Chg.refl [] w).alloc _).alloc _).drew.then hc); clear hc)
      | (go_at_call 24; refine (HG.out _ (((((Chg.refl _ _).alloc _).alloc _).alloc _).drew)).mono ?_; rintro e w2 ⟨rfl, hc⟩; obtain ⟨_, b0, b1⟩ := ref_facts (w := w) rfl ((((Chg.refl [] _).alloc _).alloc _).drew) hc; obtain ⟨hz0, r0, r1, r2, r3, rf⟩ := cx_facts (w := w.alloc (obRef i q)) (n := w.heap.size + 1) (by simp) (((Chg.refl [] _).alloc _).drew) hc; obtain ⟨hz, k0, k1, k2, k3, kf⟩ := cx_facts (w := (w.alloc (obRef i q)).alloc obCx) (n := w.heap.size + 1 + 1) (by simp) ((Chg.refl [] _).drew) hc; have HC := Lib.hid (((((Chg.refl [] w).alloc _).alloc _).alloc _).drew.then hc); clear hc))
  all_goals
    go_wp2
    refine bodyPost_ret (v := x.val) ?_ rfl ⟨rfl, by repeat' (first | with_reducible exact HC.out | with_reducible apply Chg.alloc | with_reducible apply Chg.setCell | (with_reducible refine Or.inr ?_; dsimp only; omega))⟩
    simp [results, Try.results22, go_sem, Cx.val, hz, r0, r1, r2, r3]
end Go.Proofs
