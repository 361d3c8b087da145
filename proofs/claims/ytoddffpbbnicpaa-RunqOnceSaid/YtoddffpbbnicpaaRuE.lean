import Derived.Test.YtoddffpbbnicpaaRuD
import Derived.Deep.Upon
import Derived.Lib.AppendZerosOnto
import Derived.Lib.SliceRun
namespace Go.Proofs
open Go.RowKit
set_option linter.unusedVariables false

/-- append of a slice that reads as l onto a row of the call's own. -/
theorem run_append_rd (w : World) (ty : TypeId) {v x : Value} {xs l : List Int} (hr : Row w 3 1 v xs.length (ints xs)) (hx : Rd w x l) (hb : xs.length + l.length ≤ 1000000) :
    ∃ v' w', (Builtin.append_ #[38, 38] ty #[v, x]).run Try.prog w = .ok v' w' ∧ Row w' 3 1 v' (xs ++ l).length (ints (xs ++ l)) ∧ w.grownBy w' v.ownBlock ∧ (∀ k ∈ foot v', k ∈ foot v ∨ w.heap.size ≤ k) := by
  obtain ⟨i0, hi0, hz0, hz1, hz2⟩ := info_parts Try.num_info
  obtain ⟨A, c, rfl, h1, h2, h3, h4⟩ := hx
  rcases Nat.eq_zero_or_pos l.length with h0 | h0
  · have hl : l = [] := List.eq_nil_of_length_eq_zero h0
    subst hl
    obtain ⟨A', c', rfl, hA'⟩ := hr.val
    have hle : xs.length ≤ c' := by
      rcases hr.2 with ⟨hv, h0⟩ | ⟨g, cap, cur, hv, _, hc, _⟩
      · omega
      · injection hv with _ _ hv; omega
    refine ⟨_, w, run_append_nothing w 38 38 ty 3 i0 Try.underlying38 hi0 A' xs.length c' hle (.slice A 0 c) ?_, by simpa using hr, World.grownBy.refl w _, fun k hk => .inl hk⟩
    have hc : ∀ W : World, (Builtin.firstCells i0.size 0 (.slice A 0 c)).run Try.prog W = .ok #[] W := fun W => by
      cases A with
      | none => exact run_firstCells_none W i0.size 0 0 c
      | some a => exact run_firstCells_some W i0.size 0 a 0 c [] (by simp) (fun j u hj => by simp at hj)
    exact ⟨.inl ⟨3, Try.underlying38⟩, fun w' => by simp [Builtin.lenOf], hc w, hc _, by simp, by simp⟩
  · cases A with
    | none => have := h3 rfl; omega
    | some a =>
      obtain ⟨g, o, cs, rfl, hB, hs, r⟩ := h4 a rfl
      obtain ⟨gg, cap, w', q1, q2, q3, q4, q5⟩ := run_append_row (P := Try.prog) w 38 ty 3 i0 (.int .i64 0) 1 8 Try.underlying38 hi0 hz0 hz1 hz2 rfl v xs.length (ints xs) hr ⟨g, o, none⟩ l.length c (ints l) (by rw [ints_len]; omega)
        (fun j u hu => by
          unfold ints at hu
          rw [List.getElem?_map, Option.map_eq_some_iff] at hu
          obtain ⟨y, hy, rfl⟩ := hu
          have := r j y hy
          have hadd : (⟨g, o, none⟩ : Addr).add j = ⟨g, o + j, none⟩ := by unfold Addr.add; split <;> simp_all
          rw [hadd, hB.cell]
          exact this) (by intro u hu; unfold ints at hu; obtain ⟨y, _, rfl⟩ := List.mem_map.1 hu; rfl) h0 (by unfold maxLen; omega) (by omega) w.heap.size rfl
      rw [← ints_append] at q2
      rw [← List.length_append] at q1 q2
      exact ⟨_, w', q1, q2, q3, foot_grown q4 (fun k hk => hk)⟩

theorem wpList_append_rd (w : World) {ops : Array Oper} {rest : List Oper} {o : Oper} {a : Act} {Q : Exit → Act → World → Prop} (hgd : o.guard = none) (s y : Operand)
    (ho : o.op = .call { callee := .builtin .append, args := #[s, y], argTypes := #[38, 38] })
    {v x : Value} {xs l : List Int} (hs : a.eval s = v) (hy : a.eval y = x) (hr : Row w 3 1 v xs.length (ints xs)) (hx : Rd w x l) (hb : xs.length + l.length ≤ 1000000)
    (h : ∀ v' w', Row w' 3 1 v' (xs ++ l).length (ints (xs ++ l)) → w.grownBy w' v.ownBlock → (∀ k ∈ foot v', k ∈ foot v ∨ w.heap.size ≤ k) → wpList Try.prog ops Q rest (a.put o.dst v') w') : wpList Try.prog ops Q (o :: rest) a w := by
  obtain ⟨v', w', h1, h2, h3, h4⟩ := run_append_rd w o.type hr hx hb
  exact Lib.wpList_append_run w hgd s y 38 38 ho v x hs hy v' w' h1 (h v' w' h2 h3 h4)
theorem wpList_append_rs (w : World) {ops : Array Oper} {rest : List Oper} {o : Oper} {a : Act} {Q : Exit → Act → World → Prop} (hgd : o.guard = none) (s y : Operand)
    (ho : o.op = .call { callee := .builtin .append, args := #[s, y], argTypes := #[38, 38] })
    {v x : Value} {xs l : List Int} {n : Nat} (hs : a.eval s = v) (hy : a.eval y = x) (hr : Row w 3 1 v xs.length (ints xs)) (hx : Rd w x l) (hb : xs.length + l.length ≤ 1000000) (hn : n = xs.length + l.length)
    (h : ∀ A' c' w', Row w' 3 1 (.slice A' n c') (xs ++ l).length (ints (xs ++ l)) → w.grownBy w' v.ownBlock → (∀ k ∈ foot (.slice A' n c'), k ∈ foot v ∨ w.heap.size ≤ k) → wpList Try.prog ops Q rest (a.put o.dst (.slice A' n c')) w') : wpList Try.prog ops Q (o :: rest) a w := by
  subst hn
  obtain ⟨v', w', h1, h2, h3, h4⟩ := run_append_rd w o.type hr hx hb
  obtain ⟨A', c', rfl, _⟩ := h2.val
  rw [List.length_append] at h1 h2 h4
  rw [← List.length_append] at h2
  exact Lib.wpList_append_run w hgd s y 38 38 ho v x hs hy _ w' h1 (h A' c' w' (by simpa using h2) h3 h4)
/-- What a call makes: a row of its own, in new blocks; nothing else has turned. -/
def Fresh (w w' : World) (v : Value) (l : List Int) : Prop := Row w' 3 1 v l.length (ints l) ∧ (∀ k ∈ foot v, w.heap.size ≤ k) ∧ Chg [] w w'
theorem Fresh.append {w w1 w2 : World} {v v' : Value} {xs l : List Int} (h : Fresh w w1 v xs) (hr : Row w2 3 1 v' (xs ++ l).length (ints (xs ++ l))) (hg : w1.grownBy w2 v.ownBlock) (hf : ∀ k ∈ foot v', k ∈ foot v ∨ w1.heap.size ≤ k) : Fresh w w2 v' (xs ++ l) := by
  refine ⟨hr, fun k hk => ?_, ?_⟩
  · rcases hf k hk with h1 | h1
    · exact h.2.1 k h1
    · have := h.2.2.size; omega
  · exact h.2.2.grown hg (fun k hk => .inr (h.2.1 k (row_mem hk)))
theorem Fresh.rd {w w1 : World} {v : Value} {l : List Int} (h : Fresh w w1 v l) : Rd w1 v l := Rd.of_row h.1
theorem Fresh.nil {w w1 : World} (h : Chg [] w w1) : Fresh w w1 (.slice none 0 0) [] := ⟨Row.nil _ _ _, (fun k hk => by cases hk), h⟩
theorem Fresh.drewN {w w1 : World} {v : Value} {l : List Int} (h : Fresh w w1 v l) (n : Nat) : Fresh w (w1.drewN n) v l := ⟨h.1.drewN n, h.2.1, h.2.2.drewN n⟩
theorem Fresh.before {w0 w w1 : World} {v : Value} {l : List Int} (h0 : Chg [] w0 w) (h : Fresh w w1 v l) : Fresh w0 w1 v l := ⟨h.1, fun k hk => Nat.le_trans h0.size (h.2.1 k hk), h0.then h.2.2⟩
theorem Fresh.later {w w1 w2 : World} {v : Value} {l : List Int} (h : Fresh w w1 v l) (hc : Chg [] w1 w2) : Fresh w w2 v l := ⟨h.1.chg hc (fun _ _ h => by cases h), h.2.1, h.2.2.then hc⟩
set_option maxHeartbeats 1600000 in
theorem grow_nil (n : Nat) (hn : n ≤ 8192) (w : World) :
    Calls Try.prog 64 #[.slice none 0 0, .int .i64 (n : Nat)] w fun e w' => ∃ v, e = .returned v ∧ Fresh w w' v [] := by
  obtain ⟨i0, hi0, hz0, hz1, hz2⟩ := info_parts Try.num_info
  rcases Nat.eq_zero_or_pos n with h0 | h0
  · subst h0
    go_enter Try.func64, Try.ntmps64
    go_wp2
    go_ret
    exact ⟨_, rfl, Fresh.nil (Chg.refl _ _)⟩
  · have hold : (Builtin.firstCells i0.size 0 (.slice none 0 0)).run Try.prog w.drew = .ok #[] w.drew := run_firstCells_none w.drew i0.size 0 0 0
    have hrz : ∀ ty, (Builtin.append_ #[38, 3] ty #[.slice none 0 0, .int .i64 (n : Int)]).run Try.prog w =
        .ok (.slice (some ⟨w.heap.size, 0, none⟩) n (grownCap w n 0 3)) (w.drew.alloc (.cells (#[] ++ Builtin.zeroCells (Value.int .i64 0).cells n ++ Builtin.zeroCells (Value.int .i64 0).cells (grownCap w n 0 3 - n)) 3)) := fun ty => by
      have h := Lib.run_append_grow_zeros w 38 3 ty 3 i0 (.int .i64 0) .i64 .i64 Try.underlying38 Try.underlying3 hi0 hz0 none 0 0 [] hold n h0 (by omega) (by omega) (by omega)
        (by rw [hz2]; omega) (by rw [hz2, Nat.zero_add]; exact growslice_fits (by omega) (by omega))
      rw [Nat.zero_add] at h
      exact h
    have hGn : n ≤ grownCap w n 0 3 := grownCap_ge w _ _ _
    have hGm := grownCap_le_maxLen w n 0 3 (by unfold maxLen; omega)
    obtain ⟨G, hG⟩ : ∃ G, G = grownCap w n 0 3 := ⟨_, rfl⟩
    rw [← hG] at hrz hGn hGm
    have HM := Lib.hid hGm
    have hG63 : G ≤ 9223372036854775807 := by unfold maxLen at hGm; omega
    obtain ⟨CS, hCS⟩ : ∃ CS, CS = #[] ++ Builtin.zeroCells (Value.int .i64 0).cells n ++ Builtin.zeroCells (Value.int .i64 0).cells (G - n) := ⟨_, rfl⟩
    rw [← hCS] at hrz
    have hsz : G ≤ CS.size := by rw [hCS]; simp [Builtin.zeroCells, Value.cells]; omega
    have e1 : ¬ ((n : Int) < 0) := by omega
    have e2 : (0 : Int) < (n : Int) := by omega
    clear hold hG hGm hCS
    go_enter Try.func64, Try.ntmps64
    go_wp2_with (at_builtin; refine Lib.wpList_append_run _ rfl _ _ _ _ rfl _ _ rfl rfl _ _ (hrz _) ?_)
    go_ret
    refine ⟨_, rfl, ⟨by simp [ints], .inr ⟨_, G, CS, rfl, Blk.new w.drew 3 CS, Nat.zero_le _, HM.out, by omega, by simp [ints]⟩⟩, by simp [foot_some], ((Chg.refl _ _).drew).alloc _⟩

/-- What two pieces are together, k of them. -/
def upTo (l1 l2 : List Int) : Nat → List Int
  | 0 => []
  | 1 => l1
  | _ => l1 ++ l2
set_option maxHeartbeats 3200000 in
set_option maxRecDepth 100000 in
theorem concat_any {w : World} {b : Nat} {t : TypeId} {v1 v2 : Value} {l1 l2 : List Int} (hB : Blk w b t #[v1, v2]) (h1 : Rd w v1 l1) (h2 : Rd w v2 l2) (hl : l1.length + l2.length ≤ 8192) :
    Calls Try.prog 51 #[.slice (some ⟨b, 0, none⟩) 2 2] w fun e w' => ∃ v, e = .returned v ∧ Fresh w w' v (l1 ++ l2) := by
  obtain ⟨A1, c1, rfl, _⟩ := h1.open_
  obtain ⟨A2, c2, rfl, _⟩ := h2.open_
  obtain ⟨n1, hn1⟩ : ∃ n, n = l1.length := ⟨_, rfl⟩
  obtain ⟨n2, hn2⟩ : ∃ n, n = l2.length := ⟨_, rfl⟩
  have k0 := hB.cell 0
  have k1 := hB.cell 1
  have lb := hB.lt
  rw [← hn1, ← hn2] at hl
  simp only [← hn1, ← hn2] at k0 k1 
  have H1 := Lib.hid h1
  have H2 := Lib.hid h2
  have HN1 := Lib.hid hn1
  have HN2 := Lib.hid hn2
  have T0 := Lib.hid (show (upTo l1 l2 0).length = 0 from rfl)
  have T1 := Lib.hid (show (upTo l1 l2 1).length = n1 by simp [upTo, hn1])
  have T2 := Lib.hid (show (upTo l1 l2 2).length = n1 + n2 by simp [upTo, hn1, hn2])
  clear h1 h2 hB hn1 hn2
  go_enter Try.func51, Try.ntmps51
  go_wp2
  go_loop [3, 11] (fun s i => ∃ k : Nat, k ≤ 2 ∧ i = .int .i64 k ∧ s = .int .i64 (upTo l1 l2 k).length) (fun _ i => 2 - (intOf i).toNat)
  case atStart => exact ⟨0, by omega, rfl, rfl⟩
  case round =>
    obtain ⟨k, hk, rfl, rfl⟩ := hrel
    by_cases hk0 : k = 0
    · subst hk0
      rw [T0.out]
      go_wp2
      go_round
      case rel => exact ⟨1, by omega, rfl, by rw [T1.out]⟩
      case measure => simp [intOf]
    · by_cases hk1 : k = 1
      · subst hk1
        rw [T1.out]
        go_wp2
        go_round
        case rel => exact ⟨2, by omega, rfl, by rw [T2.out]; go_num⟩
        case measure => simp [intOf]
      · obtain rfl : k = 2 := by omega
        rw [T2.out]
        clear hk0 hk1
        go_wp2_with (go_at_call 64; refine (grow_nil _ hl _).mono ?_; rintro e w1 ⟨v, rfl, hf⟩)
        have HF := Lib.hid hf
        clear hf
        have E0 := Lib.hid (show upTo l1 l2 0 = [] from rfl)
        go_loopw [6, 27] (fun v i wr => ∃ k : Nat, k ≤ 2 ∧ i = .int .i64 k ∧ Fresh w wr v (upTo l1 l2 k)) (fun _ i _ => 2 - (intOf i).toNat)
        case atStart => exact ⟨0, by omega, rfl, HF.out⟩
        case round =>
          obtain ⟨k, hk, rfl, hf⟩ := hrel
          have hc := hf.2.2
          have q0 := (hc.cell (p := ⟨b, 0, none⟩) lb (by simp)).trans k0
          have q1 := (hc.cell (p := ⟨b, 1, none⟩) lb (by simp)).trans k1
          have G1 := Lib.hid (H1.out.quiet hc)
          have G2 := Lib.hid (H2.out.quiet hc)
          have HK := Lib.hid hf
          clear hf hc
          by_cases hk0 : k = 0
          · subst hk0
            go_wp2_with (at_builtin; refine wpList_append_rd _ rfl _ _ rfl rfl rfl HK.out.1 (HN1.out ▸ G1.out) (by rw [T0.out, ← HN1.out]; omega) ?_; intro v' w2 hr hg hf; have HR := Lib.hid (HK.out.append hr hg hf); clear hr hg hf)
            go_roundw
            case rel => exact ⟨1, by omega, rfl, HR.out⟩
            case measure => simp [intOf]
          · by_cases hk1 : k = 1
            · subst hk1
              clear hk0
              go_wp2_with (at_builtin; refine wpList_append_rd _ rfl _ _ rfl rfl rfl HK.out.1 (HN2.out ▸ G2.out) (by rw [T1.out, ← HN2.out]; omega) ?_; intro v' w2 hr hg hf; have HR := Lib.hid (HK.out.append hr hg hf); clear hr hg hf)
              go_roundw
              case rel => exact ⟨2, by omega, rfl, HR.out⟩
              case measure => simp [intOf]
            · obtain rfl : k = 2 := by omega
              clear hk0 hk1
              go_wp2
              go_ret
              exact ⟨_, rfl, HK.out⟩
end Go.Proofs
