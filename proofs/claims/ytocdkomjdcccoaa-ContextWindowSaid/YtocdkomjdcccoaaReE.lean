import Derived.Test.YtocdkomjdcccoaaReD
namespace Go.Proofs
open Go.RowKit
set_option linter.unusedVariables false

/-- What a call makes: a row of its own, in new blocks; nothing else has turned. -/
def Own (w w' : World) (v : Value) (l : List Rf) : Prop := Ro w' v l ∧ (∀ k ∈ foot v, w.heap.size ≤ k) ∧ Chg [] w w'
theorem Own.rd {w w' : World} {v : Value} {l : List Rf} (h : Own w w' v l) : Rd w' v l := h.1.rd
theorem Own.before {w0 w w1 : World} {v : Value} {l : List Rf} (h0 : Chg [] w0 w) (h : Own w w1 v l) : Own w0 w1 v l := ⟨h.1, fun k hk => Nat.le_trans h0.size (h.2.1 k hk), h0.then h.2.2⟩
theorem Own.later {w w1 w2 : World} {v : Value} {l : List Rf} (h : Own w w1 v l) (hc : Chg [] w1 w2) : Own w w2 v l := ⟨h.1.quiet hc, h.2.1, h.2.2.then hc⟩
theorem Own.nil {w w1 : World} (h : Chg [] w w1) : Own w w1 (.slice none 0 0) [] := ⟨Ro.nil _, (fun k hk => by cases hk), h⟩
theorem Own.chg {w w1 w2 : World} {v : Value} {l : List Rf} {S : List Nat} (h : Own w w1 v l) (hc : Chg S w1 w2) (hn : ∀ k ∈ foot v, k ∉ S) (hS : ∀ k ∈ S, w.heap.size ≤ k) : Own w w2 v l :=
  ⟨Row.chg h.1 hc hn, h.2.1, h.2.2.trans hc (fun k hk => .inr (hS k hk))⟩
/-- Behind an append onto an own row. -/
theorem Own.append {w w1 w2 : World} {v v' : Value} {xs l : List Rf} {n : Nat} (h : Own w w1 v xs) (hn : n = (xs ++ l).length) (hr : Row w2 47 2 v' n (rfs (xs ++ l))) (hg : w1.grownBy w2 v.ownBlock) (hf : ∀ k ∈ foot v', k ∈ foot v ∨ w1.heap.size ≤ k) : Own w w2 v' (xs ++ l) := by
  subst hn
  refine ⟨hr, fun k hk => ?_, ?_⟩
  · rcases hf k hk with h1 | h1
    · exact h.2.1 k h1
    · have := h.2.2.size; omega
  · exact h.2.2.grown hg (fun k hk => .inr (h.2.1 k (row_mem hk)))

theorem run_append_in (w : World) (ty : TypeId) {v x : Value} {xs l : List Rf} {n : Nat} (hr : Row w 47 2 v n (rfs xs)) (hx : In w x l) (hb : n + l.length ≤ 1000000) :
    ∃ A' c' w', (Builtin.append_ #[40, 40] ty #[v, x]).run Try.prog w = .ok (.slice A' (n + l.length) c') w' ∧ Row w' 47 2 (.slice A' (n + l.length) c') (n + l.length) (rfs (xs ++ l)) ∧ w.grownBy w' v.ownBlock ∧ (∀ k ∈ foot (.slice A' (n + l.length) c'), k ∈ foot v ∨ w.heap.size ≤ k) := by
  obtain ⟨i0, hi0, hz0, hz1, hz2⟩ := info_parts rf_info
  obtain ⟨A, c, rfl, hcell⟩ := hx
  rcases Nat.eq_zero_or_pos l.length with hm | hm
  · have hl : l = [] := List.eq_nil_of_length_eq_zero hm
    subst hl
    obtain ⟨A', c', rfl, hA'⟩ := hr.val
    have hle : n ≤ c' := by
      rcases hr.2 with ⟨hv, h0⟩ | ⟨g, cap, cur, hv, _, hc, _⟩
      · omega
      · injection hv with _ _ hv; omega
    refine ⟨A', c', w, run_append_nothing w 40 40 ty 47 i0 Try.underlying40 hi0 A' n c' hle (.slice A 0 c) ?_, by simpa using hr, World.grownBy.refl w _, fun k hk => .inl hk⟩
    have hc : ∀ W : World, (Builtin.firstCells i0.size 0 (.slice A 0 c)).run Try.prog W = .ok #[] W := fun W => by
      cases A with
      | none => exact run_firstCells_none W i0.size 0 0 c
      | some a => exact run_firstCells_some W i0.size 0 a 0 c [] (by simp) (fun j u hj => by simp at hj)
    exact ⟨.inl ⟨47, Try.underlying40⟩, fun w' => by simp [Builtin.lenOf], hc w, hc _, by simp, by simp⟩
  · obtain ⟨g, o, rfl, _⟩ := hcell 0 _ (List.getElem?_eq_getElem hm)
    have hat : ∀ j u, (rfs l)[j]? = some u → w.cell? ((⟨g, o, none⟩ : Addr).add j) = some u := fun j u hu => by
      have hadd : (⟨g, o, none⟩ : Addr).add j = ⟨g, o + j, none⟩ := by unfold Addr.add; split <;> simp_all
      rw [hadd]
      have hj := (List.getElem?_eq_some_iff.1 hu).1
      rw [rfs_len] at hj
      obtain ⟨x, hx⟩ : ∃ x, l[j / 2]? = some x := ⟨_, List.getElem?_eq_getElem (by omega)⟩
      obtain ⟨b', o', he, _, q0, q1⟩ := hcell _ _ hx
      simp only [Option.some.injEq, Addr.mk.injEq, and_true] at he
      obtain ⟨rfl, rfl⟩ := he
      obtain ⟨r0, r1⟩ := rfs_at hx
      rcases Nat.mod_two_eq_zero_or_one j with e | e
      · rw [show j / 2 * 2 = j by omega] at q0 r0
        rw [q0, ← r0, hu]
      · rw [show j / 2 * 2 + 1 = j by omega] at r1
        rw [show o + j / 2 * 2 + 1 = o + j by omega] at q1
        rw [q1, ← r1, hu]
    obtain ⟨gg, cap, w', q1, q2, q3, q4, q5⟩ := run_append_row (P := Try.prog) w 40 ty 47 i0 (.agg #[.int .u64 0, .int .u64 0]) 2 16 Try.underlying40 hi0 hz0 hz1 hz2 rfl v n (rfs xs) hr ⟨g, o, none⟩ l.length c (rfs l) (rfs_len l) hat (by
          intro u hu
          unfold rfs at hu
          obtain ⟨y, _, hy⟩ := List.mem_flatMap.1 hu
          simp [rfCells] at hy
          rcases hy with rfl | rfl <;> rfl) hm (by unfold maxLen; omega) (by omega) w.heap.size rfl
    rw [← rfs_append] at q2
    exact ⟨_, _, w', q1, q2, q3, foot_grown q4 (fun k hk => hk)⟩
theorem wpList_append_in (w : World) {ops : Array Oper} {rest : List Oper} {o : Oper} {a : Act} {Q : Exit → Act → World → Prop} (hgd : o.guard = none) (s y : Operand)
    (ho : o.op = .call { callee := .builtin .append, args := #[s, y], argTypes := #[40, 40] })
    {v x : Value} {xs l : List Rf} {n N : Nat} (hs : a.eval s = v) (hy : a.eval y = x) (hr : Row w 47 2 v n (rfs xs)) (hx : In w x l) (hb : n + l.length ≤ 1000000) (hN : N = n + l.length)
    (h : ∀ A' c' w', Row w' 47 2 (.slice A' N c') N (rfs (xs ++ l)) → w.grownBy w' v.ownBlock → (∀ k ∈ foot (.slice A' N c'), k ∈ foot v ∨ w.heap.size ≤ k) → wpList Try.prog ops Q rest (a.put o.dst (.slice A' N c')) w') : wpList Try.prog ops Q (o :: rest) a w := by
  subst hN
  obtain ⟨A', c', w', h1, h2, h3, h4⟩ := run_append_in w o.type hr hx hb
  exact Lib.wpList_append_run w hgd s y 40 40 ho v x hs hy _ w' h1 (h A' c' w' h2 h3 h4)
theorem Ro.zero (w : World) : Ro (w.alloc (.cells #[] 47)) (.slice (some ⟨w.heap.size, 0, none⟩) 0 0) [] :=
  ⟨rfl, .inr ⟨_, 0, _, rfl, Blk.new w 47 #[], Nat.le_refl _, by unfold maxLen; omega, by simp, rfl⟩⟩
theorem nil_yes (w : World) : (binOp .eql 40 (.slice none 0 0) (.slice none 0 0)).run Try.prog w = .ok (.bool true) w := by kernel_rfl
theorem nil_no (a : Addr) (n c : Nat) (w : World) : (binOp .eql 40 (.slice (some a) n c) (.slice none 0 0)).run Try.prog w = .ok (.bool false) w := by kernel_rfl
/-- slices.Clone. -/
theorem clone_any {w : World} {v : Value} {l : List Rf} (h : Rd w v l) (hn : l.length ≤ 100000) :
    Calls Try.prog 40 #[v] w fun e w' => ∃ v', e = .returned v' ∧ Own w w' v' l := by
  have h0 := h
  obtain ⟨A, c, rfl, h1, _, h3, _⟩ := h.open_
  cases A with
  | none =>
    have hc := h3 rfl
    subst hc
    have hl : l = [] := List.eq_nil_of_length_eq_zero (by omega)
    subst hl
    have hn1 := nil_yes
    clear h h0 h1 h3
    go_enter Try.func40, Try.ntmps40
    go_wp2
    go_ret
    exact ⟨_, rfl, Own.nil (Chg.refl [] w)⟩
  | some a =>
    have hz : ∀ k ∈ foot (.slice (some ⟨w.heap.size, 0, none⟩) 0 0), w.heap.size ≤ k := fun k hk => by simp [foot_some] at hk; omega
    have hn1 := nil_no
    have HZ := Lib.hid (show Own w (w.alloc (.cells #[] 47)) (.slice (some ⟨w.heap.size, 0, none⟩) 0 0) [] from ⟨Ro.zero w, hz, (Chg.refl [] w).alloc _⟩)
    clear hz
    clear h h1 h3
    go_enter Try.func40, Try.ntmps40
    go_wp2_with (at_builtin; refine wpList_append_rs (xs := []) (n := 0) (m := l.length) (N := l.length) _ rfl _ _ rfl (by rfl) (by rfl) HZ.out.1 (h0.quiet ((Chg.refl [] w).alloc _)) (by omega) (by omega) ?_; intro A' c' w1 hr hg hf; have HO := Lib.hid (HZ.out.append rfl hr hg hf); clear hr hg hf)
    go_ret
    exact ⟨_, rfl, HO.out⟩
/-- The list of one refill, or of none. -/
def newP (b t : Int) : List Rf := if b = 0 then [] else [(b, t)]
theorem Ro.one (w : World) (a t : Int) : Ro (w.alloc (.cells #[.int .u64 a, .int .u64 t] 47)) (.slice (some ⟨w.heap.size, 0, none⟩) 1 1) [(a, t)] :=
  ⟨rfl, .inr ⟨_, 1, _, rfl, Blk.new w 47 _, Nat.le_refl _, by unfold maxLen; omega, by simp, rfl⟩⟩
theorem new_any (w : World) (b t : Int) :
    Calls Try.prog 37 #[.int .u64 b, .int .u64 t] w fun e w' => ∃ v', e = .returned v' ∧ Own w w' v' (newP b t) := by
  by_cases hb : b = 0
  · subst hb
    rw [show newP 0 t = [] from if_pos rfl]
    go_enter Try.func37, Try.ntmps37
    go_wp2
    go_ret
    exact ⟨_, rfl, Own.nil (Chg.refl [] w)⟩
  · rw [show newP b t = [(b, t)] from if_neg hb]
    have hz : ∀ k ∈ foot (.slice (some ⟨w.heap.size, 0, none⟩) 1 1), w.heap.size ≤ k := fun k hk => by simp [foot_some] at hk; omega
    have hbb : (b == 0) = false := by simpa using hb
    have HE := Lib.hid (show Own w _ _ [(b, t)] from ⟨Ro.one w b t, hz, (Chg.refl [] w).alloc _⟩)
    clear hb hz
    go_enter Try.func37, Try.ntmps37
    go_wp2
    go_ret
    exact ⟨_, rfl, HE.out⟩
/-- Is there room for so many? -/
def holdsP (l : List Rf) (m : Int) : Bool := decide (1 ≤ m) && decide ((l.length : Int) ≤ m)
theorem holds_any {w : World} {v : Value} {l : List Rf} (h : Rd w v l) (m : Int) :
    Calls Try.prog 44 #[v, .int .i64 m] w fun e w' => e = .returned (.bool (holdsP l m)) ∧ w = w' := by
  obtain ⟨A, c, rfl, _⟩ := h.open_
  obtain ⟨n, e1⟩ : ∃ n, n = l.length := ⟨_, rfl⟩
  unfold holdsP
  rw [← e1]
  clear e1 h
  by_cases h1 : 1 ≤ m
  · have g1 : decide (m ≥ 1) = true := by simpa using h1
    rw [show decide (1 ≤ m) = true by simpa using h1]
    clear h1
    go_enter Try.func44, Try.ntmps44
    go_wp2
    go_ret
    exact ⟨rfl, rfl⟩
  · have g1 : decide (m ≥ 1) = false := by simp; omega
    rw [show decide (1 ≤ m) = false by simp; omega]
    clear h1
    go_enter Try.func44, Try.ntmps44
    go_wp2
    go_ret
    exact ⟨rfl, rfl⟩
set_option maxHeartbeats 3200000 in
set_option maxRecDepth 100000 in
theorem same_any {w : World} {v1 v2 : Value} {l1 l2 : List Rf} (h1 : In w v1 l1) (h2 : In w v2 l2) (hn : l1.length ≤ 100000) :
    Calls Try.prog 33 #[v1, v2] w fun e w' => e = .returned (.bool (decide (l1 = l2))) ∧ Chg [] w w' := by
  obtain ⟨A1, c1, rfl, _, _, _, o1⟩ := h1.open_
  obtain ⟨A2, c2, rfl, _, _, _, o2⟩ := h2.open_
  have HC1 := Lib.hid o1
  have HC2 := Lib.hid o2
  obtain ⟨n1, e1⟩ : ∃ n, n = l1.length := ⟨_, rfl⟩
  obtain ⟨n2, e2⟩ : ∃ n, n = l2.length := ⟨_, rfl⟩
  rw [← e1, ← e2]
  rw [← e1] at hn
  have E1 := Lib.hid e1
  have E2 := Lib.hid e2
  clear h1 h2 o1 o2
  by_cases hne : n1 = n2
  · obtain rfl := hne
    have hb : ((n1 : Int) != (n1 : Int)) = false := by simp
    clear e1 e2
    go_enter Try.func33, Try.ntmps33
    go_wp2
    go_loopg [5] n1 (fun gh s wx => ∃ k : Nat, k + gh = n1 ∧ s = .int .i64 k ∧ Hid ((∀ j, j < k → l1[j]? = l2[j]?) ∧ Chg [] w wx))
    case atStart => exact ⟨0, by omega, rfl, Lib.hid ⟨fun j hj => by omega, Chg.refl _ _⟩⟩
    case round =>
      obtain ⟨k, hk, rfl, HR⟩ := hrel
      by_cases hlt : k < n1
      · have k0 : (0 : Int) ≤ (k : Int) := by omega
        have k1 : (k : Int) < (n1 : Int) := by omega
        obtain ⟨x, hx⟩ : ∃ x, l1[k]? = some x := ⟨_, List.getElem?_eq_getElem (by rw [← E1.out]; exact hlt)⟩
        obtain ⟨y, hy⟩ : ∃ y, l2[k]? = some y := ⟨_, List.getElem?_eq_getElem (by rw [← E2.out]; exact hlt)⟩
        obtain ⟨b1, o1, rfl, lb1, p0, p1⟩ := HC1.out k x hx
        obtain ⟨b2, o2, rfl, lb2, q0, q1⟩ := HC2.out k y hy
        have hc := HR.out.2
        have x0 := (hc.cell (p := ⟨b1, o1 + k * 2, none⟩) lb1 (by simp)).trans p0
        have x1 := (hc.cell (p := ⟨b1, o1 + k * 2 + 1, none⟩) lb1 (by simp)).trans p1
        have y0 := (hc.cell (p := ⟨b2, o2 + k * 2, none⟩) lb2 (by simp)).trans q0
        have y1 := (hc.cell (p := ⟨b2, o2 + k * 2 + 1, none⟩) lb2 (by simp)).trans q1
        have HX := Lib.hid hx
        have HY := Lib.hid hy
        clear hx hy hc p0 p1 q0 q1
        obtain ⟨xa, xi⟩ := x
        obtain ⟨ya, yi⟩ := y
        simp only at x0 x1 y0 y1
        by_cases hxy : xa = ya ∧ xi = yi
        · have hq := rf_yes hxy
          have HS := Lib.hid (show ∀ j, j < k + 1 → l1[j]? = l2[j]? from fun j hj => by
            by_cases e : j = k
            · subst e; rw [HX.out, HY.out, hxy.1, hxy.2]
            · exact HR.out.1 j (by omega))
          clear hxy
          go_wp2
          go_quiet (fail)
          go_wp2
          go_roundg (n1 - k - 1)
          case measure => omega
          case rel => exact ⟨k + 1, by omega, by go_num, Lib.hid ⟨HS.out, HR.out.2.drewN _⟩⟩
        · have hq := rf_no hxy
          have HD := Lib.hid (show decide (l1 = l2) = false from decide_eq_false (fun e => hxy (by
            have h := HY.out
            rw [← e, HX.out] at h
            simpa using h)))
          clear hxy
          go_wp2
          go_quiet (fail)
          go_wp2
          go_ret
          exact ⟨by rw [HD.out]; rfl, HR.out.2.drewN _⟩
      · obtain rfl : k = n1 := by omega
        go_wp2
        go_ret
        have HE : l1 = l2 := by
          refine List.ext_getElem? fun j => ?_
          by_cases hj : j < k
          · exact HR.out.1 j hj
          · rw [List.getElem?_eq_none (by rw [← E1.out]; omega), List.getElem?_eq_none (by rw [← E2.out]; omega)]
        exact ⟨by rw [decide_eq_true HE]; rfl, HR.out.2⟩
  · have hb : ((n1 : Int) != (n2 : Int)) = true := by simp; omega
    have HD := Lib.hid (show decide (l1 = l2) = false from decide_eq_false (fun e => hne (by rw [e1, e2, e])))
    clear hne e1 e2
    go_enter Try.func33, Try.ntmps33
    go_wp2
    go_ret
    exact ⟨by rw [HD.out]; rfl, Chg.refl _ _⟩
end Go.Proofs
