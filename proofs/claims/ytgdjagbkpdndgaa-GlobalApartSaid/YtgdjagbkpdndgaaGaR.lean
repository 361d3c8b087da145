import Derived.Test.YtgdjagbkpdndgaaGaE
namespace Go.Proofs
open Go.RowKit
set_option linter.unusedVariables false

/-- The slice V reads as these numbers, cell by cell. -/
def Is (w : World) (V : Value) (l : List Int) : Prop :=
  ∃ A c, V = .slice A l.length c ∧ ∀ (k : Nat) (x : Int), l[k]? = some x → ∃ b o, A = some ⟨b, o, none⟩ ∧ b < w.heap.size ∧ w.cell? ⟨b, o + k, none⟩ = some (.int .i64 x)
theorem Is.chg {S : List Nat} {w w' : World} {V : Value} {l : List Int} (h : Is w V l) (hc : Chg S w w') (hn : l = [] ∨ ∀ k ∈ foot V, k ∉ S) : Is w' V l := by
  obtain ⟨A, c, rfl, h1⟩ := h
  refine ⟨A, c, rfl, fun k x hk => ?_⟩
  obtain ⟨b, o, rfl, hb, hx⟩ := h1 k x hk
  rcases hn with rfl | hn
  · simp at hk
  · exact ⟨b, o, rfl, Nat.lt_of_lt_of_le hb hc.size, (hc.cell (p := ⟨b, o + k, none⟩) hb (hn b (by simp [foot_some]))).trans hx⟩
theorem Is.quiet {w w' : World} {V : Value} {l : List Int} (h : Is w V l) (hc : Chg [] w w') : Is w' V l := h.chg hc (.inr (fun _ _ hk => by cases hk))
theorem Rd.is {w : World} {V : Value} {l : List Int} (h : Rd w V l) : Is w V l := by
  obtain ⟨A, c, rfl, _, _, _, o⟩ := h.open_
  exact ⟨A, c, rfl, o⟩
/-- append of a slice that reads as l onto a row of the call's own. -/
theorem run_append_is (w : World) (ty : TypeId) {v x : Value} {xs l : List Int} (hr : Row w 3 1 v xs.length (ints xs)) (hx : Is w x l) (hb : xs.length + l.length ≤ 1000000) :
    ∃ v' w', (Builtin.append_ #[28, 28] ty #[v, x]).run Try.prog w = .ok v' w' ∧ Row w' 3 1 v' (xs ++ l).length (ints (xs ++ l)) ∧ w.grownBy w' v.ownBlock ∧ (∀ k ∈ foot v', k ∈ foot v ∨ w.heap.size ≤ k) := by
  obtain ⟨i0, hi0, hz0, hz1, hz2⟩ := info_parts Try.num_info
  obtain ⟨A, c, rfl, h1⟩ := hx
  rcases Nat.eq_zero_or_pos l.length with h0 | h0
  · have hl : l = [] := List.eq_nil_of_length_eq_zero h0
    subst hl
    obtain ⟨A', c', rfl, hA'⟩ := hr.val
    have hle : xs.length ≤ c' := by
      rcases hr.2 with ⟨hv, h0⟩ | ⟨g, cap, cur, hv, _, hc, _⟩
      · omega
      · injection hv with _ _ hv; omega
    refine ⟨_, w, run_append_nothing w 28 28 ty 3 i0 Try.underlying28 hi0 A' xs.length c' hle (.slice A 0 c) ?_, by simpa using hr, World.grownBy.refl w _, fun k hk => .inl hk⟩
    have hc : ∀ W : World, (Builtin.firstCells i0.size 0 (.slice A 0 c)).run Try.prog W = .ok #[] W := fun W => by
      cases A with
      | none => exact run_firstCells_none W i0.size 0 0 c
      | some a => exact run_firstCells_some W i0.size 0 a 0 c [] (by simp) (fun j u hj => by simp at hj)
    exact ⟨.inl ⟨3, Try.underlying28⟩, fun w' => by simp [Builtin.lenOf], hc w, hc _, by simp, by simp⟩
  · obtain ⟨g, o, rfl, _, _⟩ := h1 0 _ (List.getElem?_eq_getElem h0)
    obtain ⟨gg, cap, w', q1, q2, q3, q4, q5⟩ := run_append_row (P := Try.prog) w 28 ty 3 i0 (.int .i64 0) 1 8 Try.underlying28 hi0 hz0 hz1 hz2 rfl v xs.length (ints xs) hr ⟨g, o, none⟩ l.length c (ints l) (by rw [ints_len]; omega)
      (fun j u hu => by
        unfold ints at hu
        rw [List.getElem?_map, Option.map_eq_some_iff] at hu
        obtain ⟨y, hy, rfl⟩ := hu
        obtain ⟨g', o', he, _, hc⟩ := h1 j y hy
        simp only [Option.some.injEq, Addr.mk.injEq, and_true] at he
        obtain ⟨rfl, rfl⟩ := he
        have hadd : (⟨g, o, none⟩ : Addr).add j = ⟨g, o + j, none⟩ := by unfold Addr.add; split <;> simp_all
        rw [hadd]
        exact hc) (by intro u hu; unfold ints at hu; obtain ⟨y, _, rfl⟩ := List.mem_map.1 hu; rfl) h0 (by unfold maxLen; omega) (by omega) w.heap.size rfl
    rw [← ints_append] at q2
    rw [← List.length_append] at q1 q2
    exact ⟨_, w', q1, q2, q3, foot_grown q4 (fun k hk => hk)⟩
theorem wpList_append_is (w : World) {ops : Array Oper} {rest : List Oper} {o : Oper} {a : Act} {Q : Exit → Act → World → Prop} (hgd : o.guard = none) (s y : Operand)
    (ho : o.op = .call { callee := .builtin .append, args := #[s, y], argTypes := #[28, 28] })
    {v x : Value} {xs l : List Int} {n : Nat} (hs : a.eval s = v) (hy : a.eval y = x) (hr : Row w 3 1 v xs.length (ints xs)) (hx : Is w x l) (hb : xs.length + l.length ≤ 1000000) (hn : n = xs.length + l.length)
    (h : ∀ A' c' w', Row w' 3 1 (.slice A' n c') (xs ++ l).length (ints (xs ++ l)) → w.grownBy w' v.ownBlock → (∀ k ∈ foot (.slice A' n c'), k ∈ foot v ∨ w.heap.size ≤ k) → wpList Try.prog ops Q rest (a.put o.dst (.slice A' n c')) w') : wpList Try.prog ops Q (o :: rest) a w := by
  subst hn
  obtain ⟨v', w', h1, h2, h3, h4⟩ := run_append_is w o.type hr hx hb
  obtain ⟨A', c', rfl, _⟩ := h2.val
  rw [List.length_append] at h1 h2 h4
  rw [← List.length_append] at h2
  exact Lib.wpList_append_run w hgd s y 28 28 ho v x hs hy _ w' h1 (h A' c' w' (by simpa using h2) h3 h4)

/-! ### The document's queue: a list -/
/-- The document's queue at r has L; S: its blocks. -/
def RefAt (w : World) (r : Nat) (S : List Nat) (L : List Int) : Prop := ∃ V, Blk w r 30 #[V] ∧ Rd w V L ∧ S = r :: foot V
def RTurns (r : Nat) (S : List Nat) (L : List Int) (w w' : World) : Prop := ∃ S', RefAt w' r S' L ∧ (∀ k ∈ S', k ∈ S ∨ w.heap.size ≤ k) ∧ Chg [r] w w'
section
variable {w w' : World} {r : Nat} {S : List Nat} {L : List Int}
theorem RefAt.lt (H : RefAt w r S L) : ∀ k ∈ S, k < w.heap.size := by
  obtain ⟨V, h1, h2, rfl⟩ := H
  intro k hk
  rcases List.mem_cons.1 hk with rfl | hk
  · exact h1.lt
  · exact h2.lt k hk
theorem RefAt.mem (H : RefAt w r S L) : r ∈ S := by
  obtain ⟨V, h1, h2, rfl⟩ := H
  simp
theorem RefAt.chg {T : List Nat} (H : RefAt w r S L) (hc : Chg T w w') (hn : ∀ k ∈ S, k ∉ T) : RefAt w' r S L := by
  obtain ⟨V, h1, h2, rfl⟩ := H
  exact ⟨V, h1.chg hc (hn r (by simp)), h2.chg hc (fun k hk => hn k (List.mem_cons_of_mem _ hk)), rfl⟩
theorem RefAt.quiet (H : RefAt w r S L) (hc : Chg [] w w') : RefAt w' r S L := H.chg hc (fun _ _ hk => by cases hk)
theorem RefAt.new (w : World) : RefAt (w.alloc (.cells #[.slice none 0 0] 30)) w.heap.size [w.heap.size] [] := ⟨_, Blk.new w 30 _, Rd.nil _, rfl⟩
theorem RTurns.stay (H : RefAt w r S L) (hc : Chg [] w w') : RTurns r S L w w' := ⟨S, H.quiet hc, fun k hk => .inl hk, hc.any⟩
theorem RTurns.later {w2 : World} (H : RTurns r S L w w') (hc : Chg [] w' w2) : RTurns r S L w w2 := by
  obtain ⟨N', h1, h2, h4⟩ := H
  exact ⟨N', h1.quiet hc, h2, h4.then hc⟩
/-- A new row is stored. -/
theorem RefAt.stored {w1 : World} {L' : List Int} {V : Value} (H : RefAt w r S L) (hf : Fresh w w1 V L') : RTurns r S L' w (w1.setCell ⟨r, 0, none⟩ V) := by
  obtain ⟨V0, h1, h2, rfl⟩ := H
  have hb := h1.chg hf.2.2 (by simp)
  have hr := hf.rd
  have hrf : r ∉ foot V := hr.ty hb (by decide)
  refine ⟨r :: foot V, ⟨V, ?_, hr.same (fun k hk => Below.heap_setCell _ _ _ _ (fun e => hrf (by have : k = r := e; rw [← this]; exact hk))), rfl⟩, fun k hk => ?_, (hf.2.2.any).setCell (p := ⟨r, 0, none⟩) (.inl (by simp)) _⟩
  · have := hb.set_ 0 V
    simpa using this
  · rcases List.mem_cons.1 hk with rfl | hk
    · exact .inl (by simp)
    · exact .inr (hf.2.1 k hk)
set_option maxHeartbeats 1600000 in
theorem rput_any {v : Value} {l : List Int} (H : RefAt w r S L) (hR : Is w v l) (hb : L.length + l.length ≤ 100000) :
    Calls Try.prog 25 #[.pointer (some ⟨r, 0, none⟩), v] w fun e w' => e = .returned (.tuple #[]) ∧ RTurns r S (L ++ l) w w' := by
  obtain ⟨V0, h1, h2, hS⟩ := id H
  obtain ⟨A, c, rfl, _⟩ := h2.open_
  obtain ⟨A2, c2, rfl, _⟩ := id hR
  have k0 := h1.cell 0
  have HB := Lib.hid (fun W (hc : Chg [] w W) => And.intro ((h1.chg hc (by simp)).cell 0) ((h1.chg hc (by simp)).frozen 0))
  obtain ⟨m, hm⟩ : ∃ m, m = L.length := ⟨_, rfl⟩
  obtain ⟨n, hn⟩ : ∃ n, n = l.length := ⟨_, rfl⟩
  rw [← hm] at h2 k0 hb HB
  rw [← hn] at hR hb ⊢
  simp only [List.getElem?_toArray, List.getElem?_cons_zero] at k0
  have HH := Lib.hid H
  have H2 := Lib.hid h2
  have HR := Lib.hid hR
  have HM := Lib.hid hm
  have HN := Lib.hid hn
  clear h1 h2 hR hm hn hS H
  go_enter Try.func25, Try.ntmps25
  go_wp2_with (first
    | (at_builtin; refine wpList_append_rs (xs := []) (n := m) _ rfl _ _ rfl rfl rfl (Row.nil _ _ _) H2.out (by rw [← HM.out]; simp; omega) (by rw [← HM.out]; simp) ?_; intro A1 c1 w1 hr1 hg1 hf1; have hfr := Fresh.append (w := w) (xs := []) (l := L) (Fresh.nil (Chg.refl _ _)) hr1 hg1 hf1; simp only [List.nil_append] at hfr; have HF1 := Lib.hid hfr; clear hr1 hg1 hf1 hfr)
    | (at_builtin; (refine wpList_append_is (n := m + n) _ rfl _ _ rfl rfl rfl HF1.out.1 (HR.out.quiet HF1.out.2.2) (by rw [← HM.out, ← HN.out]; omega) (by rw [← HM.out, ← HN.out]) ?_; intro A3 c3 w2 hr2 hg2 hf2; have hfr := Fresh.append (w := w) (xs := L) (l := l) HF1.out hr2 hg2 hf2; have q1 := (HB.out _ hfr.2.2).1; have q2 := (HB.out _ hfr.2.2).2; simp only [List.getElem?_toArray, List.getElem?_cons_zero] at q1; have HF2 := Lib.hid (HH.out.stored hfr); clear hr2 hg2 hf2 hfr)))
  go_end0
  exact ⟨rfl, HF2.out⟩
end
end Go.Proofs
